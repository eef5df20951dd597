/- Words and contracts that the proofs of this seat stand on, part 12 of 22. -/
import Derived.Test.YtmebokpgiehgmaaGreatMgK
import Derived.Deep.RegionHeld3
import Derived.RangeFuncNested
import Derived.RangeFuncBound
import Derived.RangeFuncCalls
import Derived.RangeFuncLeaves
import Derived.Shelf.Abstract
import Derived.Shelf.RegionOpen
import Derived.WalkKit
import Derived.OwnWalkIn
import Derived.TacticsInMore
import Derived.LoopNIn
import Derived.LoopIn
import Derived.Maps.AppendAt
import Derived.Test.YtmebokpgiehgmaaGreatMgE
import Derived.Test.YtmebokpgiehgmaaGreatMgF

/- The contract of the program's 'byDevice': a map from devices to the runs of each, as they stand in the context, in lists of their own. Condition: at most 2^28 parts, of at most 2^28 runs together. -/
namespace Go.Proofs.YtmebokpgiehgmaaGreat.Cx
open Go.ChangeShapes Go.WideShapes Go.ChangeAt Go.RowKit Go.Maps
set_option linter.unusedVariables false
set_option maxRecDepth 4000

/-- the box of a part that came in. -/
theorem pbox_at (w : World) (d : Nat) (A : Option Addr) (n c : Nat) : ∀ V, Below (w.alloc (.cells #[.int .u16 (d : Int), .slice A n c] 44)).heap.size (w.alloc (.cells #[.int .u16 (d : Int), .slice A n c] 44)) V → V.cell? ⟨w.heap.size, 0, none⟩ = some (.int .u16 (d : Int)) ∧ V.cell? ⟨w.heap.size, 1, none⟩ = some (.slice A n c) := by
  intro V hV
  have h1 : (w.alloc (.cells #[.int .u16 (d : Int), .slice A n c] 44)).cell? ⟨w.heap.size, 0, none⟩ = some (.int .u16 (d : Int)) := by simp [go_sem]
  have h2 : (w.alloc (.cells #[.int .u16 (d : Int), .slice A n c] 44)).cell? ⟨w.heap.size, 1, none⟩ = some (.slice A n c) := by simp [go_sem]
  exact ⟨(hV.cell (World.block_lt_of_cell? _ _ h1)).trans h1, (hV.cell (World.block_lt_of_cell? _ _ h2)).trans h2⟩
set_option maxHeartbeats 4000000 in
theorem pbydev_any (w : World) (A1 : Option Addr) (a : List Part) (n1 c1 : Nat) (h1 : CtxAt w A1 a n1 c1) (ha : Wide 268435456 a) :
    Calls Tryz.prog 52 #[.slice A1 n1 c1] w fun e w' => e = .returned (.map (some w.heap.size)) ∧ MapO w' (w.heap.size + 1) w.heap.size n1 (rawC a) ∧ Below w.heap.size w w' := by
  have hmm := @run_makeMap Tryz.prog
  have H1 := Lib.hid h1
  have HM0 := Lib.hid (mapO_new w)
  have HB0 : Hid (Below w.heap.size w (w.alloc (.map #[] 0))) := Lib.hid (Dt.below_new _ _)
  have hn1 : n1 ≤ 268435456 := by rw [← h1.len]; exact ha.1
  have HL : Hid (∀ k d, (rawF (fun _ => []) (a.take k) d).length ≤ 268435456) := Lib.hid (fun k d => by
    have q1 := raw_len (fun _ => []) a k d
    have q2 := weight_take a k
    have q3 := ha.2
    simp only [List.length_nil] at q1
    omega)
  have HP : Hid (∀ (k : Nat) (x : Part), a[k]? = some x → x.2.length ≤ 268435456) := Lib.hid (fun k x hx => Nat.le_trans (weight_part hx) ha.2)
  have HF : Hid (∀ k d, Ru.Fit (rawF (fun _ => []) (a.take k) d)) := Lib.hid (fun k d => raw_fit (fun x hx => h1.fit x (List.mem_of_mem_take hx)) d (fun r hr => by cases hr))
  clear h1 ha
  go_enter Tryz.func52, Tryz.ntmps52
  go_wp2_with fail
  generalize w.alloc (.map #[] 0) = w0 at HM0 HB0 ⊢
  go_loopw [9] (fun i wr => ∃ k : Nat, k ≤ n1 ∧ i = .int .i64 (k : Int) ∧ MapO wr (w.heap.size + 1) w.heap.size k (rawF (fun _ => []) (a.take k)) ∧ Below w.heap.size w wr) (fun i _ => n1 - (intOf i).toNat)
  case atStart => exact ⟨0, Nat.zero_le _, rfl, HM0.out, HB0.out⟩
  case round =>
    obtain ⟨k, hk, rfl, hmk, hg⟩ := hrel
    have HMK := Lib.hid hmk
    have HW := Lib.hid hg
    have hsz := hmk.lt
    clear hmk hg
    by_cases hlt : k < n1
    · obtain ⟨ad, p, x, rfl, hB, hx, hp, hcell⟩ := H1.out.cells hlt
      have HN := Lib.hid (raw_next (f := fun _ => []) hx)
      have HPL := Lib.hid (HP.out k x hx)
      have HX := Lib.hid (hp.up HW.out)
      have hd1 := hp.fit
      have hpd := hp.dev
      obtain ⟨d1, d2⟩ := hcell wr HW.out
      clear hx hp hcell
      have BX : Hid (Below wr.heap.size wr (wr.alloc (.cells #[.int .u16 (x.1 : Int), .slice p.adr p.len p.cap] 44))) := Lib.hid (Dt.below_new _ _)
      obtain ⟨d3, d4⟩ := pbox_at wr x.1 p.adr p.len p.cap _ (Below.refl _ _)
      by_cases h0 : x.1 = 0
      · have dz : ((x.1 : Int) != 0) = false := by rw [bne_eq_false_iff_eq]; omega
        have HS : Hid (rawF (fun _ => []) (a.take (k + 1)) = rawF (fun _ => []) (a.take k)) := Lib.hid (by rw [HN.out]; exact raw_skip h0)
        have HR : Hid (MapO (wr.alloc (.cells #[.int .u16 (x.1 : Int), .slice p.adr p.len p.cap] 44)) (w.heap.size + 1) w.heap.size (k + 1) (rawF (fun _ => []) (a.take (k + 1)))) := Lib.hid (by rw [HS.out]; exact (HMK.out.up BX.out).more (by omega))
        have HW1 := Lib.hid (HW.out.trans (BX.out.mono HW.out.size))
        have hz : ((x.1 : Nat) : Int) = 0 := by omega
        rw [hz] at HR HW1
        clear HN HS HMK HX BX
        go_wp2
        go_roundw
        case rel => exact ⟨k + 1, hlt, by go_num, HR.out, HW1.out⟩
        case measure => simp [intOf]; omega
      · have dz : ((x.1 : Int) != 0) = true := by rw [bne_iff_ne]; omega
        have HS : Hid ((fun d => if d = x.1 then rawF (fun _ => []) (a.take k) x.1 ++ x.2 else rawF (fun _ => []) (a.take k) d) = rawF (fun _ => []) (a.take (k + 1))) := Lib.hid (by rw [HN.out]; exact raw_put h0)
        have HFN := Lib.hid (HF.out (k + 1) x.1)
        have HEN : Hid (rawF (fun _ => []) (a.take (k + 1)) x.1 = rawF (fun _ => []) (a.take k) x.1 ++ x.2) := Lib.hid (by rw [← HS.out]; exact if_pos rfl)
        rw [HEN.out] at HFN
        have HLK := Lib.hid (HL.out k x.1)
        generalize hwb : wr.alloc (.cells #[.int .u16 (x.1 : Int), .slice p.adr p.len p.cap] 44) = wb at BX d3 d4
        have hbox : wb.heap.size = wr.heap.size + 1 := by rw [← hwb]; simp
        have HXB := Lib.hid (HX.out.up BX.out)
        obtain ⟨A2, k2, c2, hA2, hk2, hlook, hstore⟩ := (HMK.out.up BX.out).look hd1
        have r1 := hlook wb (Ru.turn_refl _ _)
        have r2 := hlook wb.drew (bel_grown ((Below.refl _ _).drew) _)
        have BD : Hid (Below wb.heap.size wb wb.drew) := Lib.hid ((Below.refl _ _).drew)
        have HO2 := Lib.hid (Dt.own_kept hA2 BD.out)
        have hk2' : k2 ≤ 268435456 := by rw [← hk2]; exact HLK.out
        have hpl' : p.len ≤ 268435456 := by rw [← HX.out.len]; exact HPL.out
        have HBL : Hid (Ru.Lies wb.drew wb.drew.heap.size p.adr (Ru.rv x.2)) := Lib.hid ((HXB.out.up BD.out).runs.2)
        have HXL := Lib.hid HX.out.len
        have HXN := Lib.hid HX.out.nil
        have HOL := Lib.hid (fun j hj => (hA2.lt j hj))
        have HST := Lib.hid hstore
        have HW1 := Lib.hid ((HW.out.trans (BX.out.mono HW.out.size)).trans (BD.out.mono (Nat.le_trans HW.out.size BX.out.size)))
        have hBsz : w.heap.size + 1 ≤ wb.drew.heap.size := by show w.heap.size + 1 ≤ wb.heap.size; omega
        have HKC : Hid (∀ w5 : World, World.grownBy wb.drew w5 (Value.slice A2 k2 c2).ownBlock → w5.cell? ⟨wr.heap.size, 0, none⟩ = some (.int .u16 (x.1 : Int)) ∧ w5.cell? ⟨wr.heap.size, 1, none⟩ = some (.slice p.adr p.len p.cap)) := Lib.hid (fun w5 hg5 => by
          have hq := HMK.out
          have hne : some wr.heap.size ≠ (Value.slice A2 k2 c2).ownBlock := fun e => by
            obtain ⟨A9, k9, c9, hA9, _, hl9, _⟩ := hq.look hd1
            have e9 := hl9 wb (bel_grown BX.out _)
            rw [r1] at e9
            have e8 : Value.slice A2 k2 c2 = Value.slice A9 k9 c9 := by injection e9
            rw [e8] at e
            have := (hA9.lt wr.heap.size e.symm).2
            omega
          have hl2 : wr.heap.size < wb.drew.heap.size := by show wr.heap.size < wb.heap.size; omega
          exact ⟨(hg5.cell_far _ hl2 hne).trans d3, (hg5.cell_far _ hl2 hne).trans d4⟩)
        have HK6 : Hid (∀ w5 w6 : World, World.grownBy wb.drew w5 (Value.slice A2 k2 c2).ownBlock → w5.grownBy w6 (some w.heap.size) → w6.cell? ⟨wr.heap.size, 0, none⟩ = some (.int .u16 (x.1 : Int)) ∧ w6.cell? ⟨wr.heap.size, 1, none⟩ = some (.slice p.adr p.len p.cap)) := Lib.hid (fun w5 w6 hg5 hg6 => by
          obtain ⟨q1, q2⟩ := HKC.out w5 hg5
          have hl2 : wr.heap.size < w5.heap.size := by have := hg5.size; show wr.heap.size < w5.heap.size; have e : wb.drew.heap.size = wb.heap.size := rfl; omega
          have hne : some wr.heap.size ≠ some w.heap.size := fun e => by injection e with e; omega
          exact ⟨(hg6.cell_far _ hl2 hne).trans q1, (hg6.cell_far _ hl2 hne).trans q2⟩)
        clear HN hA2 hlook hstore HLK HPL HX HMK BX BD HXB hk2 HEN
        go_wp2_with fail
        go_region_held3 (fun V => V.cell? ⟨wr.heap.size, 0, none⟩ = some (.int .u16 (x.1 : Int)) ∧ V.cell? ⟨wr.heap.size, 1, none⟩ = some (.slice p.adr p.len p.cap)) (first | exact ⟨d3, d4⟩ | assumption) (first
          | (refine step_app rfl (.tmp 22) (.tmp 24) rfl rfl (w.heap.size + 1) k2 (.slice A2 k2 c2) (rawF (fun _ => []) (a.take k) x.1) p.adr x.2 p.len p.cap rfl rfl HO2.out HXN.out HBL.out HXL.out (by omega) hBsz ?_; intro A5 c5 w5 ho5 hg5 hl5; have hcV := HKC.out w5 hg5; obtain ⟨w6, hrun, hM6, hg6⟩ := HST.out w5 A5 (k2 + p.len) c5 _ (World.grownBy.trans (bel_grown ((Below.refl _ _).drew) _) hg5) ho5 HFN.out (hl5.imp (fun h => h) (fun h j hj => by rw [h] at hj; injection hj with hj; rw [← hj]; exact Nat.le_refl _)) (by omega); have hcV6 := HK6.out w5 w6 hg5 hg6))
        all_goals
          have HR : Hid (MapO w6 (w.heap.size + 1) w.heap.size (k + 1) (rawF (fun _ => []) (a.take (k + 1)))) := Lib.hid (hM6.turn HS.out)
          have HW6 : Hid (Below w.heap.size w w6) := Lib.hid ((HW1.out.grown hg5 HW1.out.size (fun j hj => by have := (HOL.out j hj).1; omega)).grown hg6 (Nat.le_trans HW1.out.size hg5.size) (fun j hj => by cases hj; exact Nat.le_refl _))
          clear hM6 hg6 hrun hg5 hl5 ho5 hcV hcV6 r1 r2 HO2 HBL HXL HXN HOL HST HW1 HKC HK6 HS HFN d1 d2 d3 d4
          go_wp2
          go_roundw
          case rel => exact ⟨k + 1, hlt, by go_num, HR.out, HW6.out⟩
          case measure => simp [intOf]; omega
    · obtain rfl : k = n1 := by omega
      have e : Hid (a.take k = a) := Lib.hid (List.take_of_length_le (by rw [H1.out.len]; exact Nat.le_refl _))
      rw [e.out] at HMK
      go_wp2
      go_ret
      exact ⟨rfl, HMK.out, HW.out⟩
end Go.Proofs.YtmebokpgiehgmaaGreat.Cx

/- A range over a map of lists, and what is asked of the sorting of parts. -/
namespace Go.Proofs.YtmebokpgiehgmaaGreat.Cx
open Go.ChangeShapes Go.WideShapes Go.ChangeAt Go.RowKit Go.Maps
set_option linter.unusedVariables false
set_option maxRecDepth 4000

theorem perm_map {α β : Type} {f : α → β} {s t : List β} (h : s.Perm t) : ∀ L : List α, L.map f = t → ∃ L' : List α, L'.Perm L ∧ L'.map f = s := by
  induction h with
  | nil => intro L hL; exact ⟨[], by rw [List.map_eq_nil_iff.1 hL], rfl⟩
  | cons x h ih =>
    intro L hL
    cases L with
    | nil => cases hL
    | cons y L =>
      rw [List.map_cons] at hL
      injection hL with h1 h2
      obtain ⟨L', h3, h4⟩ := ih L h2
      exact ⟨y :: L', h3.cons y, by rw [List.map_cons, h1, h4]⟩
  | swap x y l =>
    intro L hL
    cases L with
    | nil => cases hL
    | cons a L =>
      cases L with
      | nil => simp at hL
      | cons b L =>
        simp only [List.map_cons] at hL
        injection hL with h1 hL
        injection hL with h2 h3
        exact ⟨b :: a :: L, List.Perm.swap a b L, by simp only [List.map_cons, h1, h2, h3]⟩
  | trans _ _ ih1 ih2 =>
    intro L hL
    obtain ⟨L2, h1, h2⟩ := ih2 L hL
    obtain ⟨L1, h3, h4⟩ := ih1 L2 h2
    exact ⟨L1, h3.trans h1, h4⟩
theorem match_perm {w : World} {ps s : List PV} {m : List Part} (h : Match w ps m) (hp : s.Perm ps) : ∃ m', Match w s m' ∧ m'.Perm m := by
  have e1 : (ps.zip m).map Prod.fst = ps := List.map_fst_zip (Nat.le_of_eq h.1)
  have e2 : (ps.zip m).map Prod.snd = m := List.map_snd_zip (Nat.le_of_eq h.1.symm)
  obtain ⟨L, h1, h2⟩ := perm_map hp (ps.zip m) e1
  refine ⟨L.map Prod.snd, ⟨by rw [← h2, List.length_map, List.length_map], fun k p x hk hx => ?_⟩, ?_⟩
  · rw [← h2, List.getElem?_map] at hk
    rw [List.getElem?_map] at hx
    obtain ⟨r, hr, rfl⟩ := Option.map_eq_some_iff.1 hk
    rw [hr] at hx
    cases hx
    obtain ⟨i, hi, e⟩ := List.getElem_of_mem ((h1.mem_iff).1 (List.mem_of_getElem? hr))
    have hi2 := List.getElem?_eq_getElem hi
    rw [e] at hi2
    rw [List.getElem?_zip_eq_some] at hi2
    exact h.2 i r.1 r.2 hi2.1 hi2.2
  · rw [← e2]
    exact h1.map _
/-- the step of a range over such a map. -/
theorem wpList_nextS {ops : Array Oper} {rest : List Oper} {o : Oper} {a : Act} {w : World} {Q : Exit → Act → World → Prop} (hg : o.guard = none) (it : Operand) (hop : o.op = Op.next it false) (b r n : Nat) (D : DataW Value) (left : Lit → Bool) (cnt : Nat)
    (hit : a.eval it = .pointer (some ⟨r, 0, none⟩)) (h : w.ranges Tryz.prog 25 valS b r n D left cnt)
    (hDone : cnt = 0 → (∀ kl, left kl = false) → wpList Tryz.prog ops Q rest (a.put o.dst (.tuple #[.bool false])) w)
    (hMore : ∀ (x : Int) (s : Sl) (w' : World) (cnt' : Nat), (Lit.int .u16 x).wf = true → left (.int .u16 x) = true → (∀ zd, D.atKey (.int .u16 x) zd = .held (sv s)) → w'.ranges Tryz.prog 25 valS b r n D (fun z => left z && !z.sameKey (.int .u16 x)) cnt' → cnt' < cnt →
      w.grownBy w' (some r) → w'.heap.size = w.heap.size → (Instr.entry (.pointer (some ⟨r, 0, none⟩))).run Tryz.prog w' = .ok (.tuple #[.int .u16 x, .slice s.adr s.len s.cap]) w' → wpList Tryz.prog ops Q rest (a.put o.dst (.tuple #[.bool true, .int .u16 x, .slice s.adr s.len s.cap])) w') :
    wpList Tryz.prog ops Q (o :: rest) a w :=
  wpList_next_ranges w hg it hop 25 law16 valS (Value.int .u16) sv (fun key kl hkey => by obtain ⟨x, rfl, _⟩ := Maps.keyOf_int_inv Tryz.underlying25 hkey; exact ⟨x, rfl⟩) (fun v y hv => by obtain ⟨s, rfl, _⟩ := val_inv hv; exact ⟨s, rfl⟩)
    b r n D left cnt hit h hDone (fun x c kl y w' cnt' hkey hlk hv hat hrg hlt hgr hsz hen => by
      obtain ⟨x', ex, rfl, hwx⟩ := Maps.keyOf_int_inv Tryz.underlying25 hkey
      cases ex
      obtain ⟨s, es, rfl⟩ := val_inv hv
      have e := sv_inj es
      subst e
      exact hMore x c w' cnt' hwx hlk hat hrg hlt hgr hsz hen)
def SortsP : Prop := ∀ (W : World) (B : Nat) (A : Option Addr) (k c : Nat) (ps : List PV), ps.length = k → k < 4611686018427387904 → W.ownsRow B 44 2 (.slice A k c) k (cv ps) → Calls Tryz.prog 63 #[.slice A k c, .func (.func 64) #[] #[]] W fun e W' =>
  e = .returned (.tuple #[]) ∧ ∃ s : List PV, s.Perm ps ∧ s.Pairwise (fun p q => p.dev ≤ q.dev) ∧ W'.ownsRow B 44 2 (.slice A k c) k (cv s) ∧ W.grownBy W' (Value.slice A k c).ownBlock
/-- sorted, what was gathered is the context. -/
theorem made_end {w : World} {f : Nat → List Run} {g : Nat → Option Sl} {left : Lit → Bool} {ps s : List PV} {m : List Part} (h : GatherS f g left m) (hf : Tells f) (hl : ∀ kl, left kl = false) (hm : Match w ps m) (hp : s.Perm ps) (hs : s.Pairwise (fun p q => p.dev ≤ q.dev)) : Match w s (listC f) := by
  obtain ⟨m', h1, h2⟩ := match_perm hm hp
  have h3 : m'.Pairwise (fun a b => a.1 ≤ b.1) := by
    rw [List.pairwise_iff_getElem]
    intro i j hi hj hij
    have hi2 : i < s.length := by rw [h1.1]; exact hi
    have hj2 : j < s.length := by rw [h1.1]; exact hj
    have q1 := h1.2 i _ _ (List.getElem?_eq_getElem hi2) (List.getElem?_eq_getElem hi)
    have q2 := h1.2 j _ _ (List.getElem?_eq_getElem hj2) (List.getElem?_eq_getElem hj)
    rw [← q1.dev, ← q2.dev]
    exact (List.pairwise_iff_getElem.1 hs) i j hi2 hj2 hij
  have h4 : m'.Pairwise (fun a b => a.1 ≠ b.1) := (h2.pairwise_iff (fun hab e => hab e.symm)).2 h.once
  have h5 : m'.Pairwise (fun a b => a.1 < b.1) := (h3.and h4).imp (fun ⟨q1, q2⟩ => Nat.lt_of_le_of_ne q1 q2)
  rw [← gatherS_end h hf hl h5 (fun x => h2.mem_iff)]
  exact h1
end Go.Proofs.YtmebokpgiehgmaaGreat.Cx

/- The program's 'tells', 'apart' and 'telling': the contract of what goes over the runs that tell something. For every list of runs. -/
namespace Go.Proofs.YtmebokpgiehgmaaGreat.Ru
open Go.ChangeShapes Go.WideShapes Go.ChangeAt Go.RowKit Go.Shelf
set_option linter.unusedVariables false

attribute [local go_sem] Oper.semAt_some

theorem tells_any (w : World) (lo hi : Nat) :
    Calls Tryz.prog 66 #[.agg #[.int .u64 (lo : Int), .int .u64 (hi : Int)]] w fun e w' => e = .returned (.bool (mayR (lo, hi))) ∧ Below w.heap.size w w' := by
  by_cases c1 : lo = 0
  · have hd : mayR (lo, hi) = false := decide_eq_false (fun h => by have := h.1; simp at this; omega)
    have d1 : ((lo : Int) != 0) = false := by rw [bne_eq_false_iff_eq]; omega
    rw [hd]
    clear hd
    go_enter Tryz.func66, Tryz.ntmps66
    go_wp2
    go_ret
    exact ⟨rfl, below_new w _⟩
  · have d1 : ((lo : Int) != 0) = true := by rw [bne_iff_ne]; omega
    by_cases c2 : lo ≤ hi
    · have d2 : decide ((lo : Int) ≤ (hi : Int)) = true := decide_eq_true (by omega)
      have hd : mayR (lo, hi) = decide ((hi : Int) ≤ 281474976710655) := decide_eq_decide.2 ⟨fun h => by have := h.2.2; simp at this; omega, fun h => ⟨by simp; omega, c2, by simp; omega⟩⟩
      rw [hd]
      clear hd
      go_enter Tryz.func66, Tryz.ntmps66
      go_wp2
      go_ret
      exact ⟨rfl, below_new w _⟩
    · have hd : mayR (lo, hi) = false := decide_eq_false (fun h => c2 h.2.1)
      have d2 : decide ((lo : Int) ≤ (hi : Int)) = false := decide_eq_false (by omega)
      rw [hd]
      clear hd
      go_enter Tryz.func66, Tryz.ntmps66
      go_wp2
      go_ret
      exact ⟨rfl, below_new w _⟩

theorem apart_any (w : World) (alo ahi blo bhi : Nat) (h : ahi ≤ 281474976710656) :
    Calls Tryz.prog 91 #[.agg #[.int .u64 (alo : Int), .int .u64 (ahi : Int)], .agg #[.int .u64 (blo : Int), .int .u64 (bhi : Int)]] w fun e w' => e = .returned (.bool (decide (ahi + 1 < blo))) ∧ Below w.heap.size w w' := by
  have h1 : IntKind.u64.wrap ((ahi : Int) + 1) = ((ahi + 1 : Nat) : Int) := by simp [IntKind.wrap, IntKind.bits, IntKind.signed]; omega
  have hd : decide (ahi + 1 < blo) = decide (((ahi + 1 : Nat) : Int) < (blo : Int)) := decide_eq_decide.2 (by omega)
  rw [hd]
  generalize ((ahi + 1 : Nat) : Int) = z at h1 ⊢
  go_enter Tryz.func91, Tryz.ntmps91
  go_wp2
  go_ret
  exact ⟨rfl, (below_new w _).trans ((below_new _ _).mono (below_new w _).size)⟩

theorem telling_any (w : World) (A : Option Addr) (len c : Nat) :
    Calls Tryz.prog 61 #[.slice A len c] w fun e w' => e = .returned (.func (.func 83) #[] #[.pointer (some ⟨w.heap.size, 0, none⟩)]) ∧ w' = w.alloc (.cells #[.slice A len c] 42) := by
  go_enter Tryz.func61, Tryz.ntmps61
  go_wp2
  go_ret
  exact ⟨rfl, rfl⟩

theorem turn_below {w w' : World} (h : Below w.heap.size w w') (row : Option Nat) : w.grownBy w' row := ⟨h.os, h.tape, h.output, h.size, fun i hi _ => h.block i hi⟩
/-- a run as one value. -/
def encR (r : Run) : Array Value := #[.agg #[.int .u64 (r.1 : Int), .int .u64 (r.2 : Int)]]
theorem tells_take {l : List Run} {k : Nat} {r : Run} (h : l[k]? = some r) : tells (l.take (k + 1)) = tells (l.take k) ++ (if mayR r = true then [r] else []) := by
  unfold tells
  rw [List.take_add_one, h]
  simp only [Option.toList_some, List.filter_append, List.filter_cons, List.filter_nil]
theorem tells_part (l : List Run) (k : Nat) : tells (l.take k) <+: tells l := by
  refine ⟨tells (l.drop k), ?_⟩
  unfold tells
  rw [← List.filter_append, List.take_append_drop]

set_option maxRecDepth 100000 in
set_option maxHeartbeats 2000000 in
theorem telling1_in (n : Nat) (hn : 1 ≤ n) (l Bs n₀ : Nat) (A : Option Addr) (len c : Nat) (zs : List Run) (hl : zs.length = len) (h63 : len ≤ 9223372036854775807) (J Jx : List Run → World → Prop) (W : World)
    (hJ : AbidesFrom W.heap.size J) (hn₀ : n₀ ≤ W.heap.size)
    (hY : ∀ pre x W1, J pre W1 → pre.length < (tells zs).length → YieldAt Fence.wide (n - 1) Tryz.prog l (encR x) W1 fun e W' =>
      (e = .returned (.bool true) ∧ J (pre ++ [x]) W' ∧ Below n₀ W1 W') ∨ (e = .returned (.bool false) ∧ Jx (pre ++ [x]) W'))
    (hBs : W.cell? ⟨Bs, 0, none⟩ = some (.slice A len c)) (hc : Runs W n₀ A zs) (h0 : J [] W) :
    CallsIn Fence.wide n Tryz.prog 83 #[.func (.yield l) #[] #[], .pointer (some ⟨Bs, 0, none⟩)] W fun e W' => (∃ v, e = .returned v) ∧
      ((∃ ys, ys = tells zs ∧ J ys W') ∨ (∃ pre, pre <+: tells zs ∧ Jx pre W')) := by
  have HC := Lib.hid hc
  have HL := Lib.hid hl
  clear hc hl
  refine callsIn_of_wp Tryz.func83 rfl trivial ?_ rfl
  simp only [Tryz.ntmps83, List.size_toArray, List.length_cons, List.length_nil, Nat.reduceAdd, Nat.reduceSub, Array.replicate_succ, Array.replicate_zero, List.push_toArray, List.append_toArray, List.nil_append, List.cons_append]
  gi_wp2
  gi_loopw [7] (fun i wr => ∃ k : Nat, k ≤ len ∧ i = .int .i64 (k : Int) ∧ J (tells (zs.take k)) wr ∧ Below n₀ W wr)
    (fun i _ => len - (intOf i).toNat)
  case atStart => exact ⟨0, Nat.zero_le _, rfl, h0, Below.refl _ _⟩
  case round =>
    obtain ⟨k, hk, rfl, hJs, hnx⟩ := hrel
    have HX := Lib.hid hnx
    clear hnx
    by_cases hlt : k < len
    · obtain ⟨ad, lo, hi, rfl, hlk, hlo, hhi, hc1, hc2⟩ := (HC.out.below HX.out).at_ (k := k) (by rw [HL.out]; exact hlt)
      have LK := Lib.hid hlk
      have hc3 : wr.cell? ⟨(ad.add (k * 2)).block, (ad.add (k * 2)).off + 1, none⟩ = some (.int .u64 (hi : Int)) := by rw [add_next]; exact hc2
      clear hlk hc2
      have L0 : Hid (Below wr.heap.size wr (wr.alloc (.cells #[.int .u64 (lo : Int), .int .u64 (hi : Int)] 50))) := below_new _ _
      have C0 : Hid ((wr.alloc (.cells #[.int .u64 (lo : Int), .int .u64 (hi : Int)] 50)).cell? ⟨wr.heap.size, 0, none⟩ = some (.int .u64 (lo : Int)) ∧ (wr.alloc (.cells #[.int .u64 (lo : Int), .int .u64 (hi : Int)] 50)).cell? ⟨wr.heap.size, 1, none⟩ = some (.int .u64 (hi : Int))) := ⟨World.cell?_alloc_new _ _ _ _, World.cell?_alloc_new _ _ _ _⟩
      have S0 : Hid (wr.heap.size < (wr.alloc (.cells #[.int .u64 (lo : Int), .int .u64 (hi : Int)] 50)).heap.size) := by show _ < _; simp
      gi_wp2_with fail
      refine ⟨trivial, callsIn_wide.2 ((tells_any _ lo hi).mono ?_)⟩
      rintro e w4 ⟨rfl, hb4⟩
      have q1 := (hb4.cell (p := ⟨wr.heap.size, 0, none⟩) S0.out).trans C0.out.1
      have q2 := (hb4.cell (p := ⟨wr.heap.size, 1, none⟩) S0.out).trans C0.out.2
      have L4 : Hid (Below wr.heap.size wr w4) := L0.out.trans (hb4.mono L0.out.size)
      have X4 : Hid (Below n₀ W w4) := HX.out.trans (L4.out.mono (Nat.le_trans hn₀ HX.out.size))
      have hJ4 : J (tells (zs.take k)) w4 := hJ _ _ _ none hJs (turn_below L4.out none) (fun r e => by cases e)
      have T1 := Lib.hid (tells_take LK.out)
      clear hb4 hc1 hc3 C0 S0 hJs
      by_cases cm : mayR (lo, hi) = true
      · have T2 : Hid (tells (zs.take (k + 1)) = tells (zs.take k) ++ [(lo, hi)]) := by show _ = _; rw [T1.out, if_pos cm]
        obtain ⟨fn, tmps, assign, body, hy, hR⟩ := hY _ (lo, hi) w4 hJ4 (by
          have := (tells_part zs (k + 1)).length_le
          rw [T2.out, List.length_append, List.length_singleton] at this
          omega)
        dsimp only [encR] at hy
        rw [cm]
        gi_wp2
        refine hR.mono ?_
        rintro e W3 (⟨rfl, hJ3, hk3⟩ | ⟨rfl, hJx3⟩)
        · have X3 : Hid (Below n₀ W W3) := X4.out.trans hk3
          rw [← T2.out] at hJ3
          gi_wp2
          go_roundw
          case rel => exact ⟨k + 1, by omega, by go_num, hJ3, X3.out⟩
          case measure => simp [intOf]; omega
        · rw [← T2.out] at hJx3
          gi_wp2
          refine bodyPost_ret (results_none rfl _ _ _) rfl ?_
          exact ⟨⟨_, rfl⟩, .inr ⟨_, tells_part zs _, hJx3⟩⟩
      · have cm' : mayR (lo, hi) = false := by simpa using cm
        rw [if_neg cm, List.append_nil] at T1
        rw [← T1.out] at hJ4
        rw [cm']
        gi_wp2
        refine ⟨fun _ h => (by cases h), ?_⟩
        gi_wp2
        go_roundw
        case rel => exact ⟨k + 1, by omega, by go_num, hJ4, X4.out⟩
        case measure => simp [intOf]; omega
    · obtain rfl : k = len := by omega
      gi_wp2
      go_end0
      exact ⟨⟨_, rfl⟩, .inl ⟨_, by rw [List.take_of_length_le (by rw [HL.out]; exact Nat.le_refl _)], hJs⟩⟩

/-- what 'telling' answers goes over just the runs that tell something, in their order. -/
theorem telling_stops (n : Nat) (hn : 1 ≤ n) (Bs n₀ : Nat) (A : Option Addr) (len c : Nat) (zs : List Run) (hl : zs.length = len) (h63 : len ≤ 9223372036854775807) (w : World) (hB : Bs < w.heap.size) (hn₀ : n₀ ≤ w.heap.size)
    (hc : w.cell? ⟨Bs, 0, none⟩ = some (.slice A len c)) (hr : Runs w n₀ A zs) :
    SeqStopsK Fence.wide n Tryz.prog 83 #[.pointer (some ⟨Bs, 0, none⟩)] encR (Below n₀) (fun ys => ys = tells zs) (fun pre => pre <+: tells zs) (tells zs).length w := fun l J Jx W hW hJ hJx hY h0 =>
  telling1_in n hn l Bs n₀ A len c zs hl h63 J Jx W hJ (Nat.le_trans hn₀ hW.size) hY ((hW.cell (p := ⟨Bs, 0, none⟩) hB).trans hc) (hr.below (hW.mono hn₀)) h0
end Go.Proofs.YtmebokpgiehgmaaGreat.Ru

/- The contracts of the program's 'Has' and 'Last', which go over the runs that tell something. For every list of runs. -/
namespace Go.Proofs.YtmebokpgiehgmaaGreat.Ru
open Go.ChangeShapes Go.WideShapes Go.ChangeAt Go.RowKit Go.Shelf
set_option linter.unusedVariables false

attribute [local go_sem] Oper.semAt_some

theorem keepsFrom_below {W W' : World} (B : Nat) (h : Below W.heap.size W W') : KeepsFrom B W W' := ⟨h.size, fun k o _ hk _ => (h.block k (Array.getElem?_eq_some_iff.1 hk).1).trans hk⟩

/-- a block that is a run. -/
def Pair (W : World) (B : Nat) (r : Run) : Prop := W.heap[B]? = some (.cells #[.int .u64 (r.1 : Int), .int .u64 (r.2 : Int)] 50 (0, 0))
theorem Pair.lt {W : World} {B : Nat} {r : Run} (h : Pair W B r) : B < W.heap.size := (Array.getElem?_eq_some_iff.1 h).1
theorem Pair.new (W : World) (r : Run) : Pair (W.alloc (.cells #[.int .u64 (r.1 : Int), .int .u64 (r.2 : Int)] 50)) W.heap.size r := World.alloc_heap_new W _
theorem Pair.cell1 {W : World} {B : Nat} {r : Run} (h : Pair W B r) : W.cell? ⟨B, 0, none⟩ = some (.int .u64 (r.1 : Int)) := by simp [World.cell?, show W.heap[B]? = _ from h]
theorem Pair.cell2 {W : World} {B : Nat} {r : Run} (h : Pair W B r) : W.cell? ⟨B, 1, none⟩ = some (.int .u64 (r.2 : Int)) := by simp [World.cell?, show W.heap[B]? = _ from h]
theorem Pair.kept {W W' : World} {row : Option Nat} {B : Nat} {r : Run} (h : Pair W B r) (hg : W.grownBy W' row) (hne : some B ≠ row) : Pair W' B r := (hg.block B h.lt hne).trans h
theorem Pair.below {W W' : World} {B : Nat} {r : Run} (h : Pair W B r) (hb : Below W.heap.size W W') : Pair W' B r := (hb.block B h.lt).trans h
theorem Boxed.later {W W' : World} {B : Nat} {t : TypeId} {v : Value} (h : Boxed W B t v) (hb : Below W.heap.size W W') : Boxed W' B t v := (hb.block B h.lt).trans h
theorem pair_own (r : Run) (B B0 : Nat) : OwnFrom B0 (fun (_ : Unit) W => Pair W B r) := fun s X Y row hs hg hrow =>
  hs.kept hg (fun e' => by obtain ⟨_, o, ho, hc⟩ := hrow B e'.symm; rw [show X.heap[B]? = _ from hs] at ho; cases ho; cases hc)

/-- is a number within one of these runs, whether they tell something or not? -/
def inAny (l : List Run) (n : Nat) : Bool := l.any fun r => decide (r.1 ≤ n) && decide (n ≤ r.2)
theorem inAny_snoc (l : List Run) (r : Run) (n : Nat) : inAny (l ++ [r]) n = (inAny l n || (decide (r.1 ≤ n) && decide (n ≤ r.2))) := by unfold inAny; simp
theorem inAny_part {l m : List Run} (h : l <+: m) {n : Nat} (hl : inAny l n = true) : inAny m n = true := by
  obtain ⟨k, rfl⟩ := h
  unfold inAny at *
  rw [List.any_append, hl]; rfl
theorem inAny_tells (l : List Run) (n : Nat) : inAny (tells l) n = has l n := by
  rw [← has_tells l n]
  unfold inAny has
  rw [Bool.eq_iff_iff, List.any_eq_true, List.any_eq_true]
  constructor
  · rintro ⟨r, h1, h2⟩
    exact ⟨r, h1, by rw [(List.mem_filter.1 h1).2, h2]; rfl⟩
  · rintro ⟨r, h1, h2⟩
    refine ⟨r, h1, ?_⟩
    rw [Bool.and_eq_true] at h2
    exact h2.2

set_option maxRecDepth 100000 in
set_option maxHeartbeats 4000000 in
theorem phas_any (w : World) (A : Option Addr) (l : List Run) (len c n : Nat) (hl : l.length = len) (hb : Runs w w.heap.size A l) (h63 : len ≤ 9223372036854775807) :
    Calls Tryz.prog 45 #[.slice A len c, .int .u64 (n : Int)] w fun e w' => e = .returned (.bool (has l n)) ∧ Below w.heap.size w w' := by
  have HB := Lib.hid hb
  have HL := Lib.hid hl
  clear hb hl
  refine (callsIn_wide (n := 6)).1 ?_
  refine callsIn_of_wp_marks Tryz.func45 rfl trivial ?_ rfl
  simp only [Tryz.ntmps45, List.size_toArray, List.length_cons, List.length_nil, Nat.reduceAdd, Nat.reduceSub, Array.replicate_succ, Array.replicate_zero, List.push_toArray, List.append_toArray, List.nil_append, List.cons_append]
  gi_wp2_with fail
  refine ⟨trivial, callsIn_wide.2 ((telling_any _ A len c).mono ?_)⟩
  rintro e w' ⟨rfl, rfl⟩
  gi_wp2
  have b0 := ((Boxed.new w 26 (.int .u64 (n : Int))).alloc (.cells #[.bool false] 4)).alloc (.cells #[.slice A len c] 42)
  have b1 := (Boxed.new (w.alloc (.cells #[.int .u64 (n : Int)] 26)) 4 (.bool false)).alloc (.cells #[.slice A len c] 42)
  have b2 := Boxed.new ((w.alloc (.cells #[.int .u64 (n : Int)] 26)).alloc (.cells #[.bool false] 4)) 42 (.slice A len c)
  simp only [World.size_alloc] at b1 b2
  have hB0 : Below w.heap.size w (((w.alloc (.cells #[.int .u64 (n : Int)] 26)).alloc (.cells #[.bool false] 4)).alloc (.cells #[.slice A len c] 42)) := (((Below.refl _ w).alloc (Nat.le_refl _) _).alloc (by simp) _).alloc (by simp; omega) _
  have hsz : (((w.alloc (.cells #[.int .u64 (n : Int)] 26)).alloc (.cells #[.bool false] 4)).alloc (.cells #[.slice A len c] 42)).heap.size = w.heap.size + 3 := by simp
  obtain ⟨W0, hW0⟩ : ∃ W0, ((w.alloc (.cells #[.int .u64 (n : Int)] 26)).alloc (.cells #[.bool false] 4)).alloc (.cells #[.slice A len c] 42) = W0 := ⟨_, rfl⟩
  rw [hW0] at b0 b1 b2 hB0 hsz ⊢
  clear hW0
  refine wpIn_rangeFunc_ownH rfl (by omega) (gf := 83) (lb := #[.pointer (some ⟨w.heap.size + 1 + 1, 0, none⟩)]) rfl trivial (enters_of Tryz.func83 (by kernel_rfl) rfl)
    (telling_stops (6 - 1) (by omega) (w.heap.size + 1 + 1) w.heap.size A len c l HL.out h63 W0 (by omega) (by omega) b2.cell (HB.out.below hB0)) belowK_t (belowK_b (by omega)) (Below.refl _ _) (fun _ => rfl)
    (fun pre W => ((Boxed W w.heap.size 26 (.int .u64 (n : Int)) ∧ Boxed W (w.heap.size + 1) 4 (.bool false)) ∧ Below w.heap.size w W) ∧ inAny pre n = false)
    (fun k pre W => (Boxed W (w.heap.size + 1) 4 (.bool true) ∧ Below w.heap.size w W) ∧ (k = .ret ∧ inAny pre n = true))
    (OwnFrom.and (OwnFrom.and (OwnFrom.and (Own.from (boxed_own _ _ (fun _ => _)) _) (Own.from (boxed_own _ _ (fun _ => _)) _)) (ownFrom_below (Nat.le_refl _) (by omega))) (ownFrom_pure _ (fun pre => inAny pre n = false)))
    (fun k => OwnFrom.and (OwnFrom.and (Own.from (boxed_own _ _ (fun _ => _)) _) (ownFrom_below (Nat.le_refl _) (by omega))) (ownFrom_pure _ (fun pre => k = .ret ∧ inAny pre n = true)))
    ⟨⟨⟨b0, b1⟩, hB0⟩, rfl⟩
    (fun x a' W => ∃ Bx, w.heap.size + 1 < Bx ∧ Pair W Bx x ∧ a' = { tmps := #[.slice A len c, .int .u64 (n : Int), undef, .pointer (some ⟨w.heap.size, 0, none⟩), .pointer (some ⟨w.heap.size + 1, 0, none⟩), .pointer (some ⟨Bx, 0, none⟩), .slice A len c, .func (.func 83) #[] #[.pointer (some ⟨w.heap.size + 1 + 1, 0, none⟩)], .agg #[.int .u64 (x.1 : Int), .int .u64 (x.2 : Int)], undef, undef, undef, undef, undef, undef, undef, undef, undef, undef], defers := [] })
    (fun x a' _ X Y row hs hg hr => by obtain ⟨Bx, h1, h2, h3⟩ := hs; exact ⟨Bx, h1, pair_own x Bx _ () X Y row h2 hg hr, h3⟩)
    ?assign ?body ?done ?stop
  case assign =>
    rintro l2 pre x W K ⟨⟨⟨c0, c1⟩, hB1⟩, hp⟩ hK
    simp only [encR]
    gi_wp2
    exact hK _ _ ((KeepsOthers.alloc _ _).from _) ((Below.refl _ W).alloc hB1.size _) ⟨⟨⟨c0.alloc _, c1.alloc _⟩, hB1.alloc hB1.size _⟩, hp⟩ ⟨W.heap.size, c1.lt, Pair.new W x, rfl⟩
  case body =>
    rintro l2 pre x a' W hl2 ⟨r, hr⟩ ⟨⟨⟨c0, c1⟩, hB1⟩, hp⟩ ⟨Bx, hBx, bX, rfl⟩ hlt
    have d0 := c0.cell
    have d1 := c1.cell
    have f1 := c1.frozen
    have e1 := bX.cell1
    have e2 := bX.cell2
    have HP := Lib.hid hp
    clear hp hlt
    have hs := inAny_snoc pre x n
    rw [HP.out, Bool.false_or] at hs
    have HS := Lib.hid hs
    clear hs
    by_cases k1 : x.1 ≤ n
    · by_cases k2 : n ≤ x.2
      · have t1 : decide ((x.1 : Int) ≤ (n : Int)) = true := decide_eq_true (by omega)
        have t2 : decide ((n : Int) ≤ (x.2 : Int)) = true := decide_eq_true (by omega)
        gi_wp2
        exact ⟨(KeepsOthers.setCell _ _ _).from _, ⟨c1.set _, hB1.setCell (p := ⟨w.heap.size + 1, 0, none⟩) (by simp) _⟩, rfl, by rw [HS.out]; simp [k1, k2]⟩
      · have t1 : decide ((x.1 : Int) ≤ (n : Int)) = true := decide_eq_true (by omega)
        have t2 : decide ((n : Int) ≤ (x.2 : Int)) = false := decide_eq_false (by omega)
        gi_wp2
        exact ⟨KeepsFrom.refl _ _, Below.refl _ _, ⟨⟨c0, c1⟩, hB1⟩, by rw [HS.out]; simp [k2]⟩
    · have t1 : decide ((x.1 : Int) ≤ (n : Int)) = false := decide_eq_false (by omega)
      gi_wp2
      exact ⟨KeepsFrom.refl _ _, Below.refl _ _, ⟨⟨c0, c1⟩, hB1⟩, by rw [HS.out]; simp [k1]⟩
  case done =>
    rintro D ys W hD rfl ⟨⟨⟨c0, c1⟩, hB1⟩, hp⟩ hK
    have d1 := c1.cell
    have f1 := c1.frozen
    gi_wp2
    have hK' := (KeepsOthers.setCell W ⟨w.heap.size + 1, 0, none⟩ (.bool false)).same D _ hK rfl
    refine ⟨by simp, .inl ⟨_, _, rfl, run_takeDeferred hK', ?_⟩⟩
    have hc5 := cell_kept (c1.set (.bool false)).cell (grownBy_putObj' _ D (.deferred none)) (fun r e => by cases e; exact ⟨_, hK', rfl⟩)
    refine ⟨.bool false, ?_, by rw [← inAny_tells, hp], (hB1.setCell (p := ⟨w.heap.size + 1, 0, none⟩) (by simp) _).trans (belowK_b (w := w) (Nat.le_refl _) _ D _ _ (by omega) hK' rfl rfl)⟩
    simp [results, Tryz.f45, go_sem, hc5]
  case stop =>
    rintro D k pre W hD hpre ⟨⟨c1, hB1⟩, rfl, hp⟩ hK
    gi_wp2
    refine ⟨by simp, .inl ⟨_, _, rfl, run_takeDeferred hK, ?_⟩⟩
    have hc5 := cell_kept c1.cell (grownBy_putObj' _ D (.deferred none)) (fun r e => by cases e; exact ⟨_, hK, rfl⟩)
    refine ⟨.bool true, ?_, by rw [← inAny_tells, inAny_part hpre hp], hB1.trans (belowK_b (w := w) (Nat.le_refl _) W D _ _ (by omega) hK rfl rfl)⟩
    simp [results, Tryz.f45, go_sem, hc5]
end Go.Proofs.YtmebokpgiehgmaaGreat.Ru

/- The contract of slices.Collect of the runs that tell something: a new list of them, in their order. Condition: at most 2^42 runs. -/
namespace Go.Proofs.YtmebokpgiehgmaaGreat.Ru
open Go.ChangeShapes Go.WideShapes Go.ChangeAt Go.RowKit Go.Shelf
set_option linter.unusedVariables false

attribute [local go_sem] Oper.semAt_some

theorem rv_pair (r : Run) : rv [r] = [.int .u64 (r.1 : Int), .int .u64 (r.2 : Int)] := rfl
theorem pair_at (W : World) (r : Run) : ∀ (j : Nat) (u : Value), (rv [r])[j]? = some u → (W.alloc (.cells #[.int .u64 (r.1 : Int), .int .u64 (r.2 : Int)] 50)).cell? ((⟨W.heap.size, 0, none⟩ : Addr).add j) = some u := by
  intro j u hu
  rw [zero_add, World.cell?_alloc_new]
  rw [rv_pair] at hu
  simpa using hu
theorem row_own (n₀ B e size B0 : Nat) (f : List Run → List Value) : OwnFrom B0 (fun (pre : List Run) W => ∃ A k c, Boxed W B 42 (.slice A k c) ∧ k = pre.length ∧ W.ownsRow n₀ e size (.slice A k c) k (f pre)) := by
  rintro s X Y row ⟨A, k, c, hv, hk, hr⟩ hg hrow
  refine ⟨A, k, c, hv.kept hg (fun e' => ?_), hk, hr.kept hg ?_⟩
  · obtain ⟨_, o, ho, hc⟩ := hrow B e'.symm
    rw [show X.heap[B]? = _ from hv] at ho; cases ho; cases hc
  · rcases hr.2 with ⟨h, _⟩ | ⟨g, cap, cur, h, _, hgb, _⟩
    · exact .inl (by rw [h]; rfl)
    · refine .inr fun e' => ?_
      rw [h] at e'
      obtain ⟨_, o, ho, hc⟩ := hrow g (by simpa [Value.ownBlock] using e'.symm)
      rw [hgb] at ho; cases ho; cases hc

set_option maxRecDepth 100000 in
set_option maxHeartbeats 4000000 in
theorem seq_any (w : World) (Bs : Nat) (A : Option Addr) (l : List Run) (len c : Nat) (hl : l.length = len) (hB : Bs < w.heap.size) (hc : w.cell? ⟨Bs, 0, none⟩ = some (.slice A len c)) (hb : Runs w w.heap.size A l) (h41 : len ≤ 4398046511104) :
    Calls Tryz.prog 88 #[.slice none 0 0, .func (.func 83) #[] #[.pointer (some ⟨Bs, 0, none⟩)]] w (RunPost w (tells l)) := by
  obtain ⟨i0, hi0, hz0, hz1, hz2⟩ := info_parts run_info
  have HB := Lib.hid hb
  have HL := Lib.hid hl
  have HT : Hid ((tells l).length ≤ 4398046511104) := Nat.le_trans (List.length_filter_le _ _) (by rw [hl]; exact h41)
  clear hb hl
  refine (callsIn_wide (n := 6)).1 ?_
  refine callsIn_of_wp_marks Tryz.func88 rfl trivial ?_ rfl
  simp only [Tryz.ntmps88, List.size_toArray, List.length_cons, List.length_nil, Nat.reduceAdd, Nat.reduceSub, Array.replicate_succ, Array.replicate_zero, List.push_toArray, List.append_toArray, List.nil_append, List.cons_append]
  gi_wp2
  have b0 := Boxed.new w 42 (.slice none 0 0)
  have hB0 : Below w.heap.size w (w.alloc (.cells #[.slice none 0 0] 42)) := below_new w _
  have hsz : (w.alloc (.cells #[.slice none 0 0] 42)).heap.size = w.heap.size + 1 := by simp
  obtain ⟨W0, hW0⟩ : ∃ W0, w.alloc (.cells #[.slice none 0 0] 42) = W0 := ⟨_, rfl⟩
  rw [hW0] at b0 hB0 hsz ⊢
  clear hW0
  refine wpIn_rangeFunc_ownH rfl (by omega) (gf := 83) (lb := #[.pointer (some ⟨Bs, 0, none⟩)]) rfl trivial (enters_of Tryz.func83 (by kernel_rfl) rfl)
    (telling_stops (6 - 1) (by omega) Bs w.heap.size A len c l HL.out (by omega) W0 (by omega) (by omega) ((hB0.cell (p := ⟨Bs, 0, none⟩) hB).trans hc) (HB.out.below hB0)) belowK_t (belowK_b (by omega)) (Below.refl _ _) (fun _ => rfl)
    (fun pre W => (∃ A k c, Boxed W w.heap.size 42 (.slice A k c) ∧ k = pre.length ∧ W.ownsRow w.heap.size 50 2 (.slice A k c) k (rv pre)) ∧ Below w.heap.size w W)
    (fun _ _ _ => False)
    (OwnFrom.and (row_own _ _ _ _ _ rv) (ownFrom_below (Nat.le_refl _) (by omega)))
    (fun _ _ _ _ _ hs _ _ => hs)
    ⟨⟨none, 0, 0, b0, rfl, World.ownsRow_nil _ _ _ _⟩, hB0⟩
    (fun x a' W => ∃ Bx, w.heap.size < Bx ∧ Pair W Bx x ∧ a' = { tmps := #[.slice none 0 0, .func (.func 83) #[] #[.pointer (some ⟨Bs, 0, none⟩)], .pointer (some ⟨w.heap.size, 0, none⟩), undef, .slice none 0 0, .pointer (some ⟨Bx, 0, none⟩), .func (.func 83) #[] #[.pointer (some ⟨Bs, 0, none⟩)], .agg #[.int .u64 (x.1 : Int), .int .u64 (x.2 : Int)], undef, undef, undef, undef, undef], defers := [] })
    (fun x a' _ X Y row hs hg hr => by obtain ⟨Bx, h1, h2, h3⟩ := hs; exact ⟨Bx, h1, pair_own x Bx _ () X Y row h2 hg hr, h3⟩)
    ?assign ?body ?done ?stop
  case assign =>
    rintro l2 pre x W K ⟨⟨A1, k1, cp, bS, hk1, hrow⟩, hB1⟩ hK
    simp only [encR]
    gi_wp2
    exact hK _ _ ((KeepsOthers.alloc _ _).from _) ((Below.refl _ W).alloc hB1.size _) ⟨⟨A1, k1, cp, bS.alloc _, hk1, hrow.alloc _⟩, hB1.alloc hB1.size _⟩ ⟨W.heap.size, bS.lt, Pair.new W x, rfl⟩
  case body =>
    rintro l2 pre x a' W hl2 ⟨r, hr⟩ ⟨⟨A1, k1, cp, bS, rfl, hrow⟩, hB1⟩ ⟨Bx, hBx, bX, rfl⟩ hlt
    have hlen : pre.length < 4398046511104 := Nat.lt_of_lt_of_le hlt HT.out
    have cS := bS.cell
    have e1 := bX.cell1
    have e2 := bX.cell2
    have HR := Lib.hid hrow
    have HW := Lib.hid hB1
    have BS := Lib.hid bS
    clear hrow hB1 bS hlt
    gi_wp2_with (gi_at_builtin; refine wpListIn_append_own _ rfl _ _ 42 rfl w.heap.size 50 i0 (.agg #[.int .u64 0, .int .u64 0]) 2 16 Tryz.underlying42 hi0 hz0 hz1 hz2 rfl (by decide) _ _ _ rfl (HR.out.alloc _) ⟨W.heap.size, 0, none⟩ 1 1 (rv [x]) rfl rfl (pair_at W x) (rv_one _) (by simp only [maxLen]; omega) (by omega) (by have := HW.out.size; simp; omega) ?_; intro v' w1 hown' hgrow hat; obtain ⟨g', cap', rfl⟩ := ownsRow_succ hown'; obtain ⟨hv1, hv2, hr2, hk2, hb2⟩ := BS.out.appended (by decide) HR.out HW.out.size (Nat.le_refl _) hown' hgrow; have hc1 := hv1.cell; have hf1 := hv1.frozen)
    exact ⟨hk2.from _, hb2, ⟨_, _, _, hv2, by simp, by rw [rv_append]; exact hr2⟩, HW.out.trans hb2⟩
  case done =>
    rintro D ys W hD rfl ⟨⟨A1, k1, cp, bS, rfl, hrow⟩, hB1⟩ hK
    have cS := bS.cell
    gi_wp2
    refine ⟨by simp, .inl ⟨_, _, rfl, run_takeDeferred hK, ?_⟩⟩
    exact ⟨_, results_tmp rfl _ _ _, A1, _, cp, rfl, rfl, ownsRow_putObj hrow _ hK rfl, hB1.trans (belowK_b (w := w) (Nat.le_refl _) W D _ _ (by omega) hK rfl rfl)⟩
  case stop =>
    rintro D k pre W _ _ h _
    exact h.elim

theorem collect_any (w : World) (Bs : Nat) (A : Option Addr) (l : List Run) (len c : Nat) (hl : l.length = len) (hB : Bs < w.heap.size) (hc : w.cell? ⟨Bs, 0, none⟩ = some (.slice A len c)) (hb : Runs w w.heap.size A l) (h41 : len ≤ 4398046511104) :
    Calls Tryz.prog 67 #[.func (.func 83) #[] #[.pointer (some ⟨Bs, 0, none⟩)]] w (RunPost w (tells l)) := by
  have H := Lib.hid (seq_any w Bs A l len c hl hB hc hb h41)
  clear hl hc hb
  go_enter Tryz.func67, Tryz.ntmps67
  go_wp2_with fail
  refine H.out.mono ?_
  rintro e w' ⟨A1, n1, c1, rfl, h⟩
  have HH := Lib.hid h
  clear h
  go_wp2
  go_ret
  exact ⟨A1, n1, c1, rfl, HH.out⟩
end Go.Proofs.YtmebokpgiehgmaaGreat.Ru
