/- Words and contracts that the proofs of this seat stand on, part 3 of 20. -/
import Derived.Test.YtmhghgogehmehaaGreatMgB
import Derived.Test.YtmhghgogehmehaaGreatProg
import Derived.WalkKit
import Derived.ProofKit
import Derived.OpenShut
import Derived.Lib.Hide
import Derived.Below
import Derived.Outline
import Derived.Laws.OwnMore
import Derived.OwnWalk
import Derived.Laws.AppendOwnNone
import Derived.Maps.AppendAt
import Derived.Deep.AppendLies
import Derived.BigQuiet
import Derived.Deep.QuietTactic
import Derived.KernelRfl

/- Lists of dots of one's own: append of any dots to any list of one's own, nil too. Condition: at most 2^43 dots in all. -/
namespace Go.Proofs.YtmhghgogehmehaaGreat.Dt
open Go.ChangeShapes Go.WideShapes Go.ChangeAt Go.RowKit
set_option linter.unusedVariables false

theorem own_less {w : World} {B B' n size : Nat} {e : TypeId} {v : Value} {xs : List Value} (h : w.ownsRow B' e size v n xs) (hB : B ≤ B') : w.ownsRow B e size v n xs := by
  refine ⟨h.1, ?_⟩
  rcases h.2 with hz | ⟨g, cap, cur, e, hg, hr⟩
  · exact .inl hz
  · exact .inr ⟨g, cap, cur, e, Nat.le_trans hB hg, hr⟩
theorem own_kept {w V : World} {B n size : Nat} {e : TypeId} {v : Value} {xs : List Value} (h : w.ownsRow B e size v n xs) (hb : Below w.heap.size w V) : V.ownsRow B e size v n xs := by
  refine ⟨h.1, ?_⟩
  rcases h.2 with hz | ⟨g, cap, cur, e, hg, hh, hr⟩
  · exact .inl hz
  · have hlt : g < w.heap.size := by
      rcases Nat.lt_or_ge g w.heap.size with h1 | h1
      · exact h1
      · rw [Array.getElem?_eq_none h1] at hh; cases hh
    exact .inr ⟨g, cap, cur, e, hg, (hb.block g hlt).trans hh, hr⟩
theorem own_len {w : World} {B n size : Nat} {e : TypeId} {A : Option Addr} {c : Nat} {xs : List Value} (h : w.ownsRow B e size (.slice A n c) n xs) : n ≤ c ∧ c ≤ 9223372036854775807 ∧ (A = none → n = 0 ∧ c = 0) := by
  rcases h.2 with ⟨h, hz⟩ | ⟨_, _, _, h, _, _, h1, h2, _⟩
  · cases h; exact ⟨by omega, by omega, fun _ => ⟨rfl, rfl⟩⟩
  · cases h; exact ⟨h1, h2, fun e => by cases e⟩
theorem own_form {w : World} {B n size : Nat} {e : TypeId} {v : Value} {xs : List Value} (h : w.ownsRow B e size v n xs) : ∃ A c, v = .slice A n c := by
  rcases h.2 with ⟨rfl, rfl⟩ | ⟨g, cap, _, rfl, _⟩
  · exact ⟨none, 0, rfl⟩
  · exact ⟨_, cap, rfl⟩
theorem lies_any {w : World} {B n c size : Nat} {e : TypeId} {A : Option Addr} {vs : List Value} (hs : 0 < size) (h : w.ownsRow B e size (.slice A n c) n vs) : Lies w w.heap.size A vs := by
  rcases Nat.eq_zero_or_pos n with h0 | h0
  · have h1 := h.1
    rw [h0, Nat.zero_mul] at h1
    rw [List.eq_nil_of_length_eq_zero h1]
    exact Lies.none_ _ _ _
  · obtain ⟨g, cap, e1, _⟩ := own_shape (w := w) h (.inl h0)
    cases e1
    exact lies_own h
theorem dots_own {w : World} {B n c : Nat} {A : Option Addr} {m : List Dot} (h : w.ownsRow B 25 2 (.slice A n c) n (dv m)) (hf : Fit m) : Dots w w.heap.size A m := ⟨hf, lies_any (by decide) h⟩
theorem dot_at (W : World) (r : Dot) : ∀ (j : Nat) (u : Value), (dv [r])[j]? = some u → (W.alloc (.cells #[.int .u16 (r.1 : Int), .int .u64 (r.2 : Int)] 25)).cell? ((⟨W.heap.size, 0, none⟩ : Addr).add j) = some u := by
  intro j u hu
  rw [zero_add, World.cell?_alloc_new]
  have e : dv [r] = [.int .u16 (r.1 : Int), .int .u64 (r.2 : Int)] := rfl
  rw [e] at hu
  simpa using hu
theorem run_any (w : World) (B k : Nat) (v : Value) (xs : List Dot) (A : Option Addr) (m : List Dot) (n c : Nat) (ho : w.ownsRow B 25 2 v k (dv xs)) (hA : A = none → n = 0 ∧ c = 0) (hb : Lies w w.heap.size A (dv m)) (hl : m.length = n)
    (hn : k + n ≤ 8796093022208) (hB : B ≤ w.heap.size) :
    ∃ A' c' w', (Builtin.append_ #[26, 26] 26 #[v, .slice A n c]).run Tryz.prog w = .ok (.slice A' (k + n) c') w' ∧
      w'.ownsRow B 25 2 (.slice A' (k + n) c') (k + n) (dv (xs ++ m)) ∧ w.grownBy w' v.ownBlock := by
  obtain ⟨i0, hi0, hz0, hz1, hz2⟩ := info_parts dot_info
  cases A with
  | none =>
    obtain ⟨rfl, rfl⟩ := hA rfl
    obtain rfl := List.eq_nil_of_length_eq_zero hl
    obtain ⟨A', c', rfl⟩ := own_form ho
    exact ⟨A', c', w, run_append_owned_none (P := Tryz.prog) (w := w) B 26 26 25 i0 2 Tryz.underlying26 hi0 _ k (dv xs) ho, by rw [List.append_nil]; exact ho, turn_refl _ _⟩
  | some ad =>
    have hc : ∀ j u, (dv m)[j]? = some u → w.cell? (ad.add j) = some u := by
      intro j u hu
      have hjl : j < (dv m).length := (List.getElem?_eq_some_iff.1 hu).1
      obtain ⟨ad', e, hadb, hc⟩ := hb (by omega)
      obtain rfl := Option.some.inj e
      exact hc j u hu
    obtain ⟨v', w', hr, h2, h3, hat, h5⟩ := run_append_own_at (P := Tryz.prog) w B 26 26 25 i0 (.agg #[.int .u16 0, .int .u64 0]) 2 16 Tryz.underlying26 hi0 hz0 hz1 hz2 rfl (by decide) v k (dv xs) ho ad n c (dv m) (by rw [dv_length, hl]) hc (dv_one m) (by simp only [maxLen]; omega) (by omega) hB
    obtain ⟨A', c', rfl⟩ := own_form h2
    exact ⟨A', c', w', hr, by rw [dv_append]; exact h2, h3⟩
theorem wpList_any {ops : Array Oper} {rest : List Oper} {o : Oper} {a : Act} {Q : Exit → Act → World → Prop} (hgd : o.guard = none) (s x : Operand) (ho : o.op = .call { callee := .builtin .append, args := #[s, x], argTypes := #[26, 26] }) (hty : o.type = 26)
    (w : World) (B k : Nat) (v : Value) (xs : List Dot) (A : Option Addr) (m : List Dot) (n c : Nat) (hs : a.eval s = v) (hx : a.eval x = .slice A n c) (hw : w.ownsRow B 25 2 v k (dv xs)) (hA : A = none → n = 0 ∧ c = 0) (hb : Lies w w.heap.size A (dv m)) (hl : m.length = n)
    (hn : k + n ≤ 8796093022208) (hB : B ≤ w.heap.size)
    (hK : ∀ A' c' w', w'.ownsRow B 25 2 (.slice A' (k + n) c') (k + n) (dv (xs ++ m)) → w.grownBy w' v.ownBlock → wpList Tryz.prog ops Q rest (a.put o.dst (.slice A' (k + n) c')) w') : wpList Tryz.prog ops Q (o :: rest) a w := by
  refine wpList_plain hgd fun K hQ => ?_
  obtain ⟨A', c', w', hr, h2, h3⟩ := run_any w B k v xs A m n c hw hA hb hl hn hB
  rw [← hty] at hr
  unfold Oper.wp execOp
  simp only [ho, resolve, invoke, builtin, Sem.run_bind, Sem.run_pure, Result.andThen_ok, List.map_toArray, List.map_cons, List.map_nil, hs, hx]
  rw [hty] at hr ⊢
  rw [hr]
  exact hQ _ _ (hK _ _ _ h2 h3)
/-- a list of one's own has grown: what lay, lies. -/
theorem any_grown {w wr w2 : World} {v : Value} {m : Nat} {xs : List Value} (ho : wr.ownsRow w.heap.size 25 2 v m xs) (hb : Below w.heap.size w wr) (hg : wr.grownBy w2 v.ownBlock) : Below w.heap.size w w2 :=
  hb.grown hg hb.size (fun k hk => (ho.lt k hk).1)
/-- a new block that is one dot. -/
theorem lies_one (V : World) (r : Dot) : Lies (V.alloc (.cells #[.int .u16 (r.1 : Int), .int .u64 (r.2 : Int)] 25)) (V.alloc (.cells #[.int .u16 (r.1 : Int), .int .u64 (r.2 : Int)] 25)).heap.size (some ⟨V.heap.size, 0, none⟩) (dv [r]) :=
  fun _ => ⟨_, rfl, by simp, dot_at V r⟩

/-- a list of dots comes out. -/
def DotPost (w : World) (m : List Dot) (e : Ending) (w' : World) : Prop := ∃ A n c, e = .returned (.slice A n c) ∧ m.length = n ∧ w'.ownsRow w.heap.size 25 2 (.slice A n c) n (dv m) ∧ Below w.heap.size w w'
theorem post_dots {w w' : World} {m : List Dot} {e : Ending} (h : DotPost w m e w') (hf : Fit m) : ∃ A n c, e = .returned (.slice A n c) ∧ m.length = n ∧ (A = none → n = 0 ∧ c = 0) ∧ n ≤ c ∧ c ≤ 9223372036854775807 ∧ Dots w' w'.heap.size A m ∧ w'.ownsRow w.heap.size 25 2 (.slice A n c) n (dv m) ∧ Below w.heap.size w w' := by
  obtain ⟨A, n, c, rfl, hn, ho, hb⟩ := h
  obtain ⟨h1, h2, h3⟩ := own_len ho
  exact ⟨A, n, c, rfl, hn, h3, h1, h2, dots_own ho hf, ho, hb⟩

/-- a dot more, in its place. -/
def putD (l : List Dot) (d : Dot) : List Dot := l.filter (fun x => aheadD x d) ++ [d] ++ l.filter (fun x => aheadD d x)
def sortD (l : List Dot) : List Dot := l.foldl putD []
theorem ahead_iff (a b : Dot) : aheadD a b = true ↔ a.1 < b.1 ∨ (a.1 = b.1 ∧ a.2 < b.2) := decide_eq_true_iff
theorem cmp_neg (x d : Dot) : decide (cmpD x d < 0) = aheadD x d := by
  cases h : aheadD x d with
  | true => exact decide_eq_true (by rw [cmp_less h]; omega)
  | false => exact decide_eq_false (by have := cmp_sign x d h; omega)
theorem cmp_pos (x d : Dot) : decide (0 < cmpD x d) = aheadD d x := by
  cases h : aheadD d x with
  | true => exact decide_eq_true (by rw [cmp_more h]; omega)
  | false =>
    apply decide_eq_false
    unfold cmpD
    split
    · omega
    · rename_i hne
      have h2 : aheadD x d = true := by
        rw [ahead_iff]
        have h3 : ¬ (d.1 < x.1 ∨ (d.1 = x.1 ∧ d.2 < x.2)) := fun h' => by rw [(ahead_iff d x).2 h'] at h; exact absurd h (by simp)
        have h4 : ¬ (x.1 = d.1 ∧ x.2 = d.2) := fun h' => hne (Prod.ext h'.1 h'.2)
        omega
      rw [if_pos h2]; omega
theorem filter_next (f : Dot → Bool) {l : List Dot} {k : Nat} {x : Dot} (h : l[k]? = some x) : (l.take (k + 1)).filter f = (l.take k).filter f ++ (if f x = true then [x] else []) := by
  rw [take_next h, List.filter_append]
  by_cases hf : f x = true
  · simp [hf]
  · simp [hf]
theorem fit_put {l : List Dot} {d : Dot} (h : Fit l) (hd : d.1 < 65536 ∧ d.2 < 18446744073709551616) : Fit (putD l d) := by
  intro r hr
  unfold putD at hr
  simp only [List.mem_append, List.mem_filter, List.mem_singleton] at hr
  rcases hr with (hr | rfl) | hr
  · exact h r hr.1
  · exact hd
  · exact h r hr.1
theorem put_length (l : List Dot) (d : Dot) : (putD l d).length ≤ l.length + 1 := by
  have h : ∀ m : List Dot, (m.filter (fun x => aheadD x d)).length + (m.filter (fun x => aheadD d x)).length ≤ m.length := by
    intro m
    induction m with
    | nil => simp
    | cons x m ih =>
      have hx : ¬ (aheadD x d = true ∧ aheadD d x = true) := by
        rintro ⟨h1, h2⟩
        rw [ahead_iff] at h1 h2
        omega
      by_cases h1 : aheadD x d = true
      · have h2 : ¬ aheadD d x = true := fun h => hx ⟨h1, h⟩
        simp [h1, h2]; omega
      · by_cases h2 : aheadD d x = true
        · simp [h1, h2]; omega
        · simp [h1, h2]; omega
  have := h l
  unfold putD
  simp only [List.length_append, List.length_singleton]
  omega
end Go.Proofs.YtmhghgogehmehaaGreat.Dt

/- The contracts of the document's Put and Sort of layer dot. Put: for every list of at most 2^42 dots. -/
namespace Go.Proofs.YtmhghgogehmehaaGreat.Dt
open Go.ChangeShapes Go.WideShapes Go.ChangeAt Go.RowKit
set_option linter.unusedVariables false

theorem bel_alloc {w W : World} (o : Obj) (h : Below w.heap.size w W) : Below w.heap.size w (W.alloc o) := h.alloc h.size o
/-- what a round of Put knows: the dots so far, of one's own; the world. -/
def PRel (w1 : World) (n : Nat) (f : Nat → List Dot) (v i : Value) (wr : World) : Prop :=
  ∃ k m A c, k ≤ n ∧ i = .int .i64 ((k : Nat) : Int) ∧ v = .slice A m c ∧ (f k).length = m ∧ wr.ownsRow w1.heap.size 25 2 (.slice A m c) m (dv (f k)) ∧ Below w1.heap.size w1 wr
theorem p_rel {w1 wr : World} {n k m c : Nat} {A : Option Addr} {f : Nat → List Dot} {o : List Dot} (hk : k < n) (hs : f (k + 1) = o) (hm : o.length = m) (ho : wr.ownsRow w1.heap.size 25 2 (.slice A m c) m (dv o)) (hb : Below w1.heap.size w1 wr) : PRel w1 n f (.slice A m c) (.int .i64 ((k : Int) + 1)) wr :=
  ⟨k + 1, m, A, c, hk, by go_num, rfl, by rw [hs]; exact hm, by rw [hs]; exact ho, hb⟩

set_option maxHeartbeats 8000000 in
theorem rput_any (w : World) (A0 : Option Addr) (l : List Dot) (n c0 : Nat) (d : Dot) (hl : l.length = n) (hb : Dots w w.heap.size A0 l) (h42 : n ≤ 4398046511104) :
    Calls Tryz.prog 40 #[.slice A0 n c0, .agg #[.int .u16 (d.1 : Int), .int .u64 (d.2 : Int)]] w (DotPost w (putD l d)) := by
  have HL := Lib.hid hl
  have HB1 : Hid (Below w.heap.size w (w.alloc (.cells #[.int .u16 (d.1 : Int), .int .u64 (d.2 : Int)] 25))) := below_new w _
  have hd0 : (w.alloc (.cells #[.int .u16 (d.1 : Int), .int .u64 (d.2 : Int)] 25)).cell? ⟨w.heap.size, 0, none⟩ = some (.int .u16 (d.1 : Int)) := by rw [World.cell?_alloc_mark]; rfl
  have hd1 : (w.alloc (.cells #[.int .u16 (d.1 : Int), .int .u64 (d.2 : Int)] 25)).cell? ⟨w.heap.size, 1, none⟩ = some (.int .u64 (d.2 : Int)) := by rw [World.cell?_alloc_mark]; rfl
  have H1 := Lib.hid (hb.up (below_new w (.cells #[.int .u16 (d.1 : Int), .int .u64 (d.2 : Int)] 25)))
  clear hb hl
  go_enter Tryz.func40, Tryz.ntmps40
  go_wp2_with fail
  generalize hw1 : w.alloc (.cells #[.int .u16 (d.1 : Int), .int .u64 (d.2 : Int)] 25) = w1 at *
  clear hw1
  have HD : Hid (∀ V, Below w1.heap.size w1 V → V.cell? ⟨w.heap.size, 0, none⟩ = some (.int .u16 (d.1 : Int)) ∧ V.cell? ⟨w.heap.size, 1, none⟩ = some (.int .u64 (d.2 : Int))) := fun V hV => ⟨(hV.cell (World.block_lt_of_cell? w1 _ hd0)).trans hd0, (hV.cell (World.block_lt_of_cell? w1 _ hd1)).trans hd1⟩
  clear hd0 hd1
  obtain ⟨f, hf⟩ : ∃ f : Nat → List Dot, f = fun k => (l.take k).filter (fun x => aheadD x d) := ⟨_, rfl⟩
  have HF : Hid (∀ k, (f k).length ≤ k) := Lib.hid (fun k => by rw [hf]; exact Nat.le_trans (List.length_filter_le _ _) (List.length_take_le _ _))
  have HFE : Hid (∀ k, f k = (l.take k).filter (fun x => aheadD x d)) := Lib.hid (fun k => by rw [hf])
  clear hf
  go_loopw [5, 6] (fun v i wr => PRel w1 n f v i wr) (fun _ i _ => n - (intOf i).toNat)
  case atStart => exact ⟨0, 0, none, 0, Nat.zero_le _, rfl, rfl, by rw [HFE.out]; rfl, by rw [HFE.out]; exact World.ownsRow_nil _ _ _ _, Below.refl _ _⟩
  case round =>
    obtain ⟨k, m, A, c, hk, rfl, rfl, hm, ho, hw⟩ := hrel
    have hmk : m ≤ k := by rw [← hm]; exact HF.out k
    have HM := Lib.hid hm
    have HO := Lib.hid ho
    have HW := Lib.hid hw
    clear hm ho hw
    by_cases hlt : k < n
    · obtain ⟨ad, x, rfl, hB, hlx, hx1, hx2, hcx⟩ := H1.out.cells (k := k) (by rw [HL.out]; exact hlt)
      have HN := Lib.hid (filter_next (fun x => aheadD x d) hlx)
      clear hlx
      have HC : Hid (∀ V, Below wr.heap.size wr V → (V.cell? (ad.add (k * 2)) = some (.int .u16 (x.1 : Int)) ∧ V.cell? ⟨(ad.add (k * 2)).block, (ad.add (k * 2)).off + 1, none⟩ = some (.int .u64 (x.2 : Int))) ∧ V.cell? ⟨w.heap.size, 0, none⟩ = some (.int .u16 (d.1 : Int)) ∧ V.cell? ⟨w.heap.size, 1, none⟩ = some (.int .u64 (d.2 : Int))) := fun V hV =>
        ⟨hcx V (HW.out.trans (hV.mono HW.out.size)), HD.out V (HW.out.trans (hV.mono HW.out.size))⟩
      clear hcx
      obtain ⟨⟨d1, d2⟩, d3, d4⟩ := HC.out wr (Below.refl _ _)
      go_wp2_with fail
      go_region_held3 (fun V => (V.cell? (ad.add (k * 2)) = some (.int .u16 (x.1 : Int)) ∧ V.cell? ⟨(ad.add (k * 2)).block, (ad.add (k * 2)).off + 1, none⟩ = some (.int .u64 (x.2 : Int))) ∧ V.cell? ⟨w.heap.size, 0, none⟩ = some (.int .u16 (d.1 : Int)) ∧ V.cell? ⟨w.heap.size, 1, none⟩ = some (.int .u64 (d.2 : Int))) (first | exact ⟨⟨d1, d2⟩, d3, d4⟩ | assumption | exact HC.out _ (by (repeat (first | exact Below.refl _ _ | assumption | apply bel_drew)))) (first
        | (go_at_call 51; (with_reducible refine (rcmp_later wr _ x d ?_).mono ?_); (repeat (first | exact Below.refl _ _ | assumption | apply bel_drew)); rintro e V ⟨rfl, bv⟩; have hcV := HC.out V bv))
      all_goals
        have HV : Hid (Below w1.heap.size w1 V) := HW.out.trans (bv.mono HW.out.size)
        have HOV := Lib.hid (own_kept HO.out bv)
        obtain ⟨⟨v1, v2⟩, _⟩ := hcV
        clear bv d1 d2 d3 d4
        rw [cmp_neg]
        cases ha : aheadD x d with
        | true =>
          rw [ha] at HN
          have HLO : Hid (m + 1 ≤ 8796093022208) := Lib.hid (by omega)
          have HWA : Hid (Below w1.heap.size w1 (V.alloc (.cells #[.int .u16 (x.1 : Int), .int .u64 (x.2 : Int)] 25))) := bel_alloc _ HV.out
          have HS : Hid (f (k + 1) = f k ++ [x]) := Lib.hid (by rw [HFE.out, HFE.out]; exact HN.out.trans (by rw [if_pos rfl]))
          clear ha
          go_wp2_with (at_builtin; refine wpList_any rfl (.tmp 21) (.tmp 26) rfl rfl _ w1.heap.size m (.slice A m c) (f k) (some ⟨V.heap.size, 0, none⟩) [x] 1 1 rfl rfl (HOV.out.alloc _) (fun h => by cases h) (lies_one V x) rfl HLO.out HWA.out.size ?_; intro A3 c3 V3 ho3 hg3; have HR := Lib.hid (p_rel hlt HS.out (by rw [List.length_append, HM.out]; rfl) ho3 (any_grown (HOV.out.alloc _) HWA.out hg3)); clear ho3 hg3)
          go_roundw
          case rel => exact HR.out
          case measure => simp [intOf]; omega
        | false =>
          rw [ha] at HN
          have HS : Hid (f (k + 1) = f k) := Lib.hid (by rw [HFE.out, HFE.out]; exact HN.out.trans (by rw [if_neg (by simp), List.append_nil]))
          have HR := Lib.hid (p_rel hlt HS.out HM.out HOV.out HV.out)
          clear ha v1 v2
          go_wp2
          go_roundw
          case rel => exact HR.out
          case measure => simp [intOf]; omega
    · obtain rfl : n = k := by omega
      have HE : Hid (f n = l.filter (fun x => aheadD x d)) := Lib.hid (by rw [HFE.out, List.take_of_length_le (by rw [HL.out]; exact Nat.le_refl _)])
      obtain ⟨d3, d4⟩ := HD.out wr HW.out
      have HLO : Hid (m + 1 ≤ 8796093022208) := Lib.hid (by omega)
      have HWA : Hid (Below w1.heap.size w1 (wr.alloc (.cells #[.int .u16 (d.1 : Int), .int .u64 (d.2 : Int)] 25))) := bel_alloc _ HW.out
      go_wp2_with (at_builtin; refine wpList_any rfl (.tmp 28) (.tmp 30) rfl rfl _ w1.heap.size m (.slice A m c) (f n) (some ⟨wr.heap.size, 0, none⟩) [d] 1 1 rfl rfl (HO.out.alloc _) (fun h => by cases h) (lies_one wr d) rfl HLO.out HWA.out.size ?_; intro A3 c3 V3 ho3 hg3; have HO3 := Lib.hid ho3; have HW3 := Lib.hid (any_grown (HO.out.alloc _) HWA.out hg3); clear ho3 hg3)
      obtain ⟨g, hg⟩ : ∃ g : Nat → List Dot, g = fun j => l.filter (fun x => aheadD x d) ++ [d] ++ (l.take j).filter (fun x => aheadD d x) := ⟨_, rfl⟩
      have HGE : Hid (∀ j, g j = l.filter (fun x => aheadD x d) ++ [d] ++ (l.take j).filter (fun x => aheadD d x)) := Lib.hid (fun j => by rw [hg])
      have HG : Hid (∀ j, (g j).length ≤ n + 1) := Lib.hid (fun j => by
        have h1 := put_length l d
        have h2 : ((l.take j).filter (fun x => aheadD d x)).length ≤ (l.filter (fun x => aheadD d x)).length := ((List.take_sublist j l).filter _).length_le
        rw [HL.out] at h1
        rw [HGE.out]
        unfold putD at h1
        simp only [List.length_append] at h1 ⊢
        omega)
      clear hg d3 d4 HLO
      have HS0 : Hid (g 0 = f n ++ [d]) := Lib.hid (by rw [HGE.out, HE.out]; simp)
      have HM0 : Hid ((f n ++ [d]).length = m + 1) := Lib.hid (by rw [List.length_append, HM.out]; rfl)
      clear hmk HF HFE HM HO HW HWA HE hlt hk
      generalize f n = fk at HS0 HM0 HO3
      go_loopw [5, 7] (fun v i wr => PRel w1 n g v i wr) (fun _ i _ => n - (intOf i).toNat)
      case atStart => exact ⟨0, m + 1, A3, c3, Nat.zero_le _, rfl, rfl, by rw [HS0.out]; exact HM0.out, by rw [HS0.out]; exact HO3.out, HW3.out⟩
      case round =>
        clear HS0 HM0 HO3 HW3
        obtain ⟨k, m, A, c, hk, rfl, rfl, hm, ho, hw⟩ := hrel
        have hmk : m ≤ n + 1 := by rw [← hm]; exact HG.out k
        have HM := Lib.hid hm
        have HO := Lib.hid ho
        have HW := Lib.hid hw
        clear hm ho hw
        by_cases hlt : k < n
        · obtain ⟨ad, x, rfl, hB, hlx, hx1, hx2, hcx⟩ := H1.out.cells (k := k) (by rw [HL.out]; exact hlt)
          have HN := Lib.hid (filter_next (fun x => aheadD d x) hlx)
          clear hlx
          have HC : Hid (∀ V, Below wr.heap.size wr V → (V.cell? (ad.add (k * 2)) = some (.int .u16 (x.1 : Int)) ∧ V.cell? ⟨(ad.add (k * 2)).block, (ad.add (k * 2)).off + 1, none⟩ = some (.int .u64 (x.2 : Int))) ∧ V.cell? ⟨w.heap.size, 0, none⟩ = some (.int .u16 (d.1 : Int)) ∧ V.cell? ⟨w.heap.size, 1, none⟩ = some (.int .u64 (d.2 : Int))) := fun V hV =>
            ⟨hcx V (HW.out.trans (hV.mono HW.out.size)), HD.out V (HW.out.trans (hV.mono HW.out.size))⟩
          clear hcx
          obtain ⟨⟨d1, d2⟩, d3, d4⟩ := HC.out wr (Below.refl _ _)
          go_wp2_with fail
          go_region_held3 (fun V => (V.cell? (ad.add (k * 2)) = some (.int .u16 (x.1 : Int)) ∧ V.cell? ⟨(ad.add (k * 2)).block, (ad.add (k * 2)).off + 1, none⟩ = some (.int .u64 (x.2 : Int))) ∧ V.cell? ⟨w.heap.size, 0, none⟩ = some (.int .u16 (d.1 : Int)) ∧ V.cell? ⟨w.heap.size, 1, none⟩ = some (.int .u64 (d.2 : Int))) (first | exact ⟨⟨d1, d2⟩, d3, d4⟩ | assumption | exact HC.out _ (by (repeat (first | exact Below.refl _ _ | assumption | apply bel_drew)))) (first
            | (go_at_call 51; (with_reducible refine (rcmp_later wr _ x d ?_).mono ?_); (repeat (first | exact Below.refl _ _ | assumption | apply bel_drew)); rintro e V ⟨rfl, bv⟩; have hcV := HC.out V bv))
          all_goals
            have HV : Hid (Below w1.heap.size w1 V) := HW.out.trans (bv.mono HW.out.size)
            have HOV := Lib.hid (own_kept HO.out bv)
            obtain ⟨⟨v1, v2⟩, _⟩ := hcV
            clear bv d1 d2 d3 d4
            rw [cmp_pos]
            cases ha : aheadD d x with
            | true =>
              rw [ha] at HN
              have HLO : Hid (m + 1 ≤ 8796093022208) := Lib.hid (by omega)
              have HWA : Hid (Below w1.heap.size w1 (V.alloc (.cells #[.int .u16 (x.1 : Int), .int .u64 (x.2 : Int)] 25))) := bel_alloc _ HV.out
              have HS : Hid (g (k + 1) = g k ++ [x]) := Lib.hid (by rw [HGE.out, HGE.out, List.append_assoc _ _ [x]]; exact congrArg _ (HN.out.trans (by rw [if_pos rfl])))
              clear ha
              go_wp2_with (at_builtin; refine wpList_any rfl (.tmp 45) (.tmp 50) rfl rfl _ w1.heap.size m (.slice A m c) (g k) (some ⟨V.heap.size, 0, none⟩) [x] 1 1 rfl rfl (HOV.out.alloc _) (fun h => by cases h) (lies_one V x) rfl HLO.out HWA.out.size ?_; intro A3 c3 V3 ho3 hg3; have HR := Lib.hid (p_rel hlt HS.out (by rw [List.length_append, HM.out]; rfl) ho3 (any_grown (HOV.out.alloc _) HWA.out hg3)); clear ho3 hg3)
              go_roundw
              case rel => exact HR.out
              case measure => simp [intOf]; omega
            | false =>
              rw [ha] at HN
              have HS : Hid (g (k + 1) = g k) := Lib.hid (by rw [HGE.out, HGE.out]; exact congrArg _ (HN.out.trans (by rw [if_neg (by simp), List.append_nil])))
              have HR := Lib.hid (p_rel hlt HS.out HM.out HOV.out HV.out)
              clear ha v1 v2
              go_wp2
              go_roundw
              case rel => exact HR.out
              case measure => simp [intOf]; omega
        · obtain rfl : n = k := by omega
          have HE2 : Hid (g n = putD l d) := Lib.hid (by rw [HGE.out, List.take_of_length_le (by rw [HL.out]; exact Nat.le_refl _)]; rfl)
          have HWE : Hid (Below w.heap.size w wr) := HB1.out.trans (HW.out.mono HB1.out.size)
          rw [HE2.out] at HM HO
          go_wp2
          go_ret
          exact ⟨A, m, c, rfl, HM.out, own_less HO.out HB1.out.size, HWE.out⟩
end Go.Proofs.YtmhghgogehmehaaGreat.Dt

/- The contract of the document's Sort of layer dot. For every list of at most 2^42 dots. -/
namespace Go.Proofs.YtmhghgogehmehaaGreat.Dt
open Go.ChangeShapes Go.WideShapes Go.ChangeAt Go.RowKit
set_option linter.unusedVariables false

theorem sort_next {l : List Dot} {k : Nat} {x : Dot} (h : l[k]? = some x) : sortD (l.take (k + 1)) = putD (sortD (l.take k)) x := by
  unfold sortD
  rw [take_next h, List.foldl_append]; rfl
theorem sort_fit (l : List Dot) (h : Fit l) (k : Nat) : Fit (sortD (l.take k)) ∧ (sortD (l.take k)).length ≤ k := by
  induction k with
  | zero => exact ⟨fun r hr => (by cases hr), Nat.le_refl _⟩
  | succ k ih =>
    by_cases hk : k < l.length
    · have hg := List.getElem?_eq_getElem hk
      rw [sort_next hg]
      exact ⟨fit_put ih.1 (h _ (List.getElem_mem hk)), Nat.le_trans (put_length _ _) (by omega)⟩
    · have e : l.take (k + 1) = l.take k := by rw [List.take_of_length_le (by omega), List.take_of_length_le (by omega)]
      rw [e]
      exact ⟨ih.1, by omega⟩
/-! The document's list of a list: its dots, each once, in order. Plain arithmetic. -/
theorem ahead_trans {a b c : Dot} (h1 : aheadD a b = true) (h2 : aheadD b c = true) : aheadD a c = true := by
  rw [ahead_iff] at *; omega
theorem ahead_not {a b : Dot} (h1 : aheadD a b = true) : aheadD b a = false := by
  cases h : aheadD b a with
  | false => rfl
  | true => rw [ahead_iff] at *; omega
theorem ahead_irr (a : Dot) : aheadD a a = false := by
  cases h : aheadD a a with
  | false => rfl
  | true => rw [ahead_iff] at h; omega
theorem ahead_all {a b : Dot} (h1 : aheadD a b = false) (h2 : a ≠ b) : aheadD b a = true := by
  rw [ahead_iff]
  have h3 : ¬ (a.1 < b.1 ∨ (a.1 = b.1 ∧ a.2 < b.2)) := fun h' => by rw [(ahead_iff a b).2 h'] at h1; exact absurd h1 (by simp)
  have h4 : ¬ (a.1 = b.1 ∧ a.2 = b.2) := fun h' => h2 (Prod.ext h'.1 h'.2)
  omega
/-- each one ahead of all behind it. -/
def Ord (l : List Dot) : Prop := l.Pairwise (fun a b => aheadD a b = true)
theorem put_mem (l : List Dot) (d x : Dot) : x ∈ putD l d ↔ x = d ∨ x ∈ l := by
  unfold putD
  simp only [List.mem_append, List.mem_filter, List.mem_singleton]
  constructor
  · rintro ((h | h) | h)
    · exact .inr h.1
    · exact .inl h
    · exact .inr h.1
  · rintro (h | h)
    · exact .inl (.inr h)
    · by_cases h1 : aheadD x d = true
      · exact .inl (.inl ⟨h, h1⟩)
      · by_cases h2 : x = d
        · exact .inl (.inr h2)
        · exact .inr ⟨h, ahead_all (by simpa using h1) h2⟩
theorem put_ord {l : List Dot} (d : Dot) (h : Ord l) : Ord (putD l d) := by
  unfold putD Ord
  rw [List.pairwise_append, List.pairwise_append]
  refine ⟨⟨h.filter _, List.pairwise_singleton _ _, ?_⟩, h.filter _, ?_⟩
  · intro a ha b hb
    rw [List.mem_singleton.1 hb]
    exact (List.mem_filter.1 ha).2
  · intro a ha b hb
    have hb2 := (List.mem_filter.1 hb).2
    rcases List.mem_append.1 ha with ha | ha
    · exact ahead_trans (List.mem_filter.1 ha).2 hb2
    · rw [List.mem_singleton.1 ha]; exact hb2
theorem sort_from (l m : List Dot) (h : Ord m) : Ord (l.foldl putD m) ∧ ∀ x, x ∈ l.foldl putD m ↔ x ∈ m ∨ x ∈ l := by
  induction l generalizing m with
  | nil => exact ⟨h, fun x => by simp⟩
  | cons d l ih =>
    obtain ⟨h1, h2⟩ := ih (putD m d) (put_ord d h)
    refine ⟨h1, fun x => ?_⟩
    rw [List.foldl_cons, h2, put_mem, List.mem_cons]
    constructor
    · rintro ((h | h) | h)
      · exact .inr (.inl h)
      · exact .inl h
      · exact .inr (.inr h)
    · rintro (h | h | h)
      · exact .inl (.inr h)
      · exact .inl (.inl h)
      · exact .inr h
theorem sort_ord (l : List Dot) : Ord (sortD l) := (sort_from l [] List.Pairwise.nil).1
theorem sort_mem (l : List Dot) (x : Dot) : x ∈ sortD l ↔ x ∈ l := by rw [show sortD l = l.foldl putD [] from rfl, (sort_from l [] List.Pairwise.nil).2]; simp
/-- two lists in order with the same dots are the same. -/
theorem ord_uniq {l m : List Dot} (hl : Ord l) (hm : Ord m) (h : ∀ x, x ∈ l ↔ x ∈ m) : l = m := by
  induction l generalizing m with
  | nil =>
    cases m with
    | nil => rfl
    | cons b m => exact absurd ((h b).2 (List.mem_cons_self ..)) (by simp)
  | cons a l ih =>
    cases m with
    | nil => exact absurd ((h a).1 (List.mem_cons_self ..)) (by simp)
    | cons b m =>
      obtain ⟨hl1, hl2⟩ := List.pairwise_cons.1 hl
      obtain ⟨hm1, hm2⟩ := List.pairwise_cons.1 hm
      have hab : a = b := by
        rcases List.mem_cons.1 ((h a).1 (List.mem_cons_self ..)) with h1 | h1
        · exact h1
        · rcases List.mem_cons.1 ((h b).2 (List.mem_cons_self ..)) with h2 | h2
          · exact h2.symm
          · have h3 := hm1 a h1
            have h4 := hl1 b h2
            rw [ahead_not h3] at h4
            exact absurd h4 (by simp)
      subst hab
      congr 1
      refine ih hl2 hm2 fun x => ?_
      constructor
      · intro hx
        rcases List.mem_cons.1 ((h x).1 (List.mem_cons_of_mem _ hx)) with h1 | h1
        · have h2 := hl1 x hx
          rw [h1, ahead_irr] at h2
          exact absurd h2 (by simp)
        · exact h1
      · intro hx
        rcases List.mem_cons.1 ((h x).2 (List.mem_cons_of_mem _ hx)) with h1 | h1
        · have h2 := hm1 x hx
          rw [h1, ahead_irr] at h2
          exact absurd h2 (by simp)
        · exact h1
theorem sort_uniq {l m : List Dot} (hm : Ord m) (h : ∀ x, x ∈ m ↔ x ∈ l) : m = sortD l :=
  ord_uniq hm (sort_ord l) (fun x => by rw [h, sort_mem])
theorem rise_ord (l : List Dot) : riseB l = true ↔ Ord l := by
  induction l with
  | nil => simp [riseB, Ord]
  | cons a l ih =>
    cases l with
    | nil => simp [riseB, Ord]
    | cons b l =>
      rw [show riseB (a :: b :: l) = (aheadD a b && riseB (b :: l)) from rfl, Bool.and_eq_true, ih]
      unfold Ord
      rw [List.pairwise_cons (a := a)]
      constructor
      · rintro ⟨h1, h2⟩
        refine ⟨fun x hx => ?_, h2⟩
        rcases List.mem_cons.1 hx with rfl | hx
        · exact h1
        · exact ahead_trans h1 ((List.pairwise_cons.1 h2).1 x hx)
      · rintro ⟨h1, h2⟩
        exact ⟨h1 b (List.mem_cons_self ..), h2⟩
/-- a list in order is its own sorting. -/
theorem sort_same {l : List Dot} (h : Ord l) : sortD l = l := (sort_uniq h (fun x => Iff.rfl)).symm

/-! Numbers of dots. -/
def numD (d : Dot) : Nat := d.1 * 281474976710656 + d.2 % 281474976710656
theorem num_order {a b : Dot} (ha : mayD a = true) (hb : mayD b = true) : numD a < numD b ↔ aheadD a b = true := by
  rw [may_iff] at ha hb
  rw [ahead_iff]
  unfold numD
  omega
theorem num_one {a b : Dot} (ha : mayD a = true) (hb : mayD b = true) : numD a = numD b ↔ a = b := by
  rw [may_iff] at ha hb
  constructor
  · intro h
    unfold numD at h
    exact Prod.ext (by omega) (by omega)
  · rintro rfl; rfl
theorem unpack_num {d : Dot} (h : mayD d = true) (h1 : d.1 < 65536) : unpackD (numD d) = (d, true) := by
  have h2 := (may_iff d).1 h
  have e : splitD (numD d) = d := by unfold splitD numD; exact Prod.ext (by show _ / _ = _; omega) (by show _ % _ = _; omega)
  unfold unpackD
  rw [e, if_pos h]
end Go.Proofs.YtmhghgogehmehaaGreat.Dt

/- Words for the claims of layer runs: slices of runs and of numbers in memory, appends to a list of one's own. -/
namespace Go.Proofs.YtmhghgogehmehaaGreat.Ru
open Go.ChangeShapes Go.WideShapes Go.ChangeAt Go.RowKit
set_option linter.unusedVariables false
set_option maxRecDepth 4000

theorem ret_int {k : IntKind} {a b : Int} (h : a = b) : Ending.returned (.int k a) = .returned (.int k b) := by rw [h]
theorem ret_bool {a b : Bool} (h : a = b) : Ending.returned (.bool a) = .returned (.bool b) := by rw [h]
theorem block_add (a : Addr) (n : Nat) : (a.add n).block = a.block := by unfold Addr.add; split <;> rfl
theorem add_add (a : Addr) (m n : Nat) : (a.add m).add n = a.add (m + n) := by
  unfold Addr.add
  by_cases h1 : m = 0
  · subst h1; simp
  · by_cases h2 : n = 0
    · subst h2; simp
    · have h3 : ¬ m + n = 0 := by omega
      simp [h1, h2, Nat.add_assoc]
theorem zero_add (g j : Nat) : (⟨g, 0, none⟩ : Addr).add j = ⟨g, j, none⟩ := by
  unfold Addr.add; split
  · rename_i hz; rw [hz]
  · simp

/-- a slice of the address A whose cells are these, below block B. -/
def Lies (w : World) (B : Nat) (A : Option Addr) (vs : List Value) : Prop :=
  0 < vs.length → ∃ ad : Addr, A = some ad ∧ ad.block < B ∧ ∀ (j : Nat) (u : Value), vs[j]? = some u → w.cell? (ad.add j) = some u
theorem Lies.below {w w' : World} {B : Nat} {A : Option Addr} {vs : List Value} (h : Lies w B A vs) (hb : Below B w w') : Lies w' B A vs := fun hl => by
  obtain ⟨ad, e, hB, hc⟩ := h hl
  exact ⟨ad, e, hB, fun j u hu => (hb.cell (by rw [block_add]; exact hB)).trans (hc j u hu)⟩
theorem Lies.more {w : World} {B B' : Nat} {A : Option Addr} {vs : List Value} (h : Lies w B A vs) (hB : B ≤ B') : Lies w B' A vs := fun hl => by
  obtain ⟨ad, e, hb, hc⟩ := h hl
  exact ⟨ad, e, by omega, hc⟩
theorem Lies.none_ (w : World) (B : Nat) (A : Option Addr) : Lies w B A [] := fun h => absurd h (by simp)
theorem lies_own {w : World} {B g n cap size : Nat} {e : TypeId} {vs : List Value} (h : w.ownsRow B e size (.slice (some ⟨g, 0, none⟩) n cap) n vs) : Lies w w.heap.size (some ⟨g, 0, none⟩) vs := fun _ => by
  refine ⟨_, rfl, (h.lt g rfl).2, fun j u hj => ?_⟩
  have hjl : j < vs.length := (List.getElem?_eq_some_iff.1 hj).1
  have := h.1
  rw [zero_add, h.cellAt j (by omega), hj]
theorem below_new (w : World) (o : Obj) : Below w.heap.size w (w.alloc o) := (Below.refl _ _).alloc (Nat.le_refl _) o
theorem turn_refl (w : World) (row : Option Nat) : w.grownBy w row := ⟨rfl, rfl, rfl, Nat.le_refl _, fun _ _ _ => rfl⟩
theorem own_shape {w w1 : World} {B n size : Nat} {e : TypeId} {v1 : Value} {xs : List Value} (hown : w1.ownsRow B e size v1 n xs) (hn : 0 < n ∨ ¬ v1 = .slice none 0 0) : ∃ g cap, v1 = .slice (some ⟨g, 0, none⟩) n cap ∧ B ≤ g := by
  rcases hown.2 with ⟨h, hz⟩ | ⟨g, cap, _, e, hg, _⟩
  · rcases hn with hn | hn
    · omega
    · exact absurd h hn
  · exact ⟨g, cap, e, hg⟩

/-- a run: its two ends. -/
abbrev Run := Nat × Nat
def rv (l : List Run) : List Value := l.flatMap fun r => [.int .u64 (r.1 : Int), .int .u64 (r.2 : Int)]
def nv (l : List Nat) : List Value := l.map fun x : Nat => .int .u64 (x : Int)
theorem rv_nil : rv [] = [] := rfl
theorem rv_append (l m : List Run) : rv (l ++ m) = rv l ++ rv m := by unfold rv; rw [List.flatMap_append]
theorem nv_append (l m : List Nat) : nv (l ++ m) = nv l ++ nv m := by unfold nv; rw [List.map_append]
theorem rv_length (l : List Run) : (rv l).length = l.length * 2 := by
  induction l with
  | nil => rfl
  | cons r l ih => simp only [rv, List.flatMap_cons, List.length_append, List.length_cons, List.length_nil] at ih ⊢; omega
theorem nv_length (l : List Nat) : (nv l).length = l.length := by unfold nv; simp
theorem rv_get {l : List Run} {k : Nat} {r : Run} (h : l[k]? = some r) : (rv l)[k * 2]? = some (.int .u64 (r.1 : Int)) ∧ (rv l)[k * 2 + 1]? = some (.int .u64 (r.2 : Int)) := by
  induction l generalizing k with
  | nil => simp at h
  | cons x l ih =>
    cases k with
    | zero => obtain rfl : x = r := by simpa using h
              exact ⟨rfl, rfl⟩
    | succ k =>
      have h2 := ih (k := k) (by simpa using h)
      have e : rv (x :: l) = .int .u64 (x.1 : Int) :: .int .u64 (x.2 : Int) :: rv l := rfl
      have e1 : (k + 1) * 2 = k * 2 + 2 := by omega
      rw [e, e1]
      exact ⟨by simpa using h2.1, by simpa using h2.2⟩
theorem nv_get {l : List Nat} (j : Nat) : (nv l)[j]? = l[j]?.map fun x : Nat => Value.int .u64 (x : Int) := by unfold nv; simp
theorem rv_one (l : List Run) : ∀ u ∈ rv l, u.oneCell' = true := by
  intro u hu
  obtain ⟨r, _, h⟩ := List.mem_flatMap.1 hu
  simp only [List.mem_cons, List.not_mem_nil, or_false] at h
  rcases h with rfl | rfl <;> rfl
theorem nv_one (l : List Nat) : ∀ u ∈ nv l, u.oneCell' = true := by
  intro u hu
  obtain ⟨x, _, rfl⟩ := List.mem_map.1 hu
  rfl

def Fit (l : List Run) : Prop := ∀ r ∈ l, r.1 < 18446744073709551616 ∧ r.2 < 18446744073709551616
def FitN (l : List Nat) : Prop := ∀ x ∈ l, x < 18446744073709551616
/-- a slice of the address A that holds these runs, below block B. -/
def Runs (w : World) (B : Nat) (A : Option Addr) (l : List Run) : Prop := Fit l ∧ Lies w B A (rv l)
def Nums (w : World) (B : Nat) (A : Option Addr) (l : List Nat) : Prop := FitN l ∧ Lies w B A (nv l)
theorem Runs.below {w w' : World} {B : Nat} {A : Option Addr} {l : List Run} (h : Runs w B A l) (hb : Below B w w') : Runs w' B A l := ⟨h.1, h.2.below hb⟩
theorem Runs.more {w : World} {B B' : Nat} {A : Option Addr} {l : List Run} (h : Runs w B A l) (hB : B ≤ B') : Runs w B' A l := ⟨h.1, h.2.more hB⟩
theorem Runs.up {w W : World} {A : Option Addr} {l : List Run} (h : Runs w w.heap.size A l) (hb : Below w.heap.size w W) : Runs W W.heap.size A l := (h.below hb).more hb.size
theorem Runs.none_ (w : World) (B : Nat) (A : Option Addr) : Runs w B A [] := ⟨fun r hr => (by cases hr), Lies.none_ _ _ _⟩
theorem Nums.below {w w' : World} {B : Nat} {A : Option Addr} {l : List Nat} (h : Nums w B A l) (hb : Below B w w') : Nums w' B A l := ⟨h.1, h.2.below hb⟩
theorem Nums.more {w : World} {B B' : Nat} {A : Option Addr} {l : List Nat} (h : Nums w B A l) (hB : B ≤ B') : Nums w B' A l := ⟨h.1, h.2.more hB⟩
theorem Nums.up {w W : World} {A : Option Addr} {l : List Nat} (h : Nums w w.heap.size A l) (hb : Below w.heap.size w W) : Nums W W.heap.size A l := (h.below hb).more hb.size
theorem Nums.none_ (w : World) (B : Nat) (A : Option Addr) : Nums w B A [] := ⟨fun r hr => (by cases hr), Lies.none_ _ _ _⟩
theorem Runs.at_ {w : World} {B : Nat} {A : Option Addr} {l : List Run} (h : Runs w B A l) {k : Nat} (hk : k < l.length) :
    ∃ (ad : Addr) (lo hi : Nat), A = some ad ∧ l[k]? = some (lo, hi) ∧ lo < 18446744073709551616 ∧ hi < 18446744073709551616 ∧ w.cell? (ad.add (k * 2)) = some (.int .u64 (lo : Int)) ∧ w.cell? (ad.add (k * 2 + 1)) = some (.int .u64 (hi : Int)) := by
  obtain ⟨ad, e, _, hc⟩ := h.2 (by rw [rv_length]; omega)
  have hg := List.getElem?_eq_getElem hk
  obtain ⟨h1, h2⟩ := h.1 l[k] (List.getElem_mem hk)
  obtain ⟨g1, g2⟩ := rv_get hg
  exact ⟨ad, l[k].1, l[k].2, e, hg, h1, h2, hc _ _ g1, hc _ _ g2⟩
theorem Nums.at_ {w : World} {B : Nat} {A : Option Addr} {l : List Nat} (h : Nums w B A l) {k : Nat} (hk : k < l.length) :
    ∃ (ad : Addr) (x : Nat), A = some ad ∧ l[k]? = some x ∧ x < 18446744073709551616 ∧ w.cell? (ad.add k) = some (.int .u64 (x : Int)) := by
  obtain ⟨ad, e, _, hc⟩ := h.2 (by rw [nv_length]; omega)
  have hg := List.getElem?_eq_getElem hk
  exact ⟨ad, l[k], e, hg, h.1 _ (List.getElem_mem hk), hc _ _ (by rw [nv_get, hg]; rfl)⟩

/-- where a place within memory stands, as the walk reckons it. -/
theorem add_lit (a : Addr) (n : Nat) (h : a.spot = none) : a.add n = ⟨a.block, a.off + n, none⟩ := by
  unfold Addr.add
  split
  · rename_i hz; subst hz; cases a; simp_all
  · rfl

theorem run_info : (Tryz.prog.info? 73).map (fun i => (i.zero, i.size, i.bytes)) = some (some (.agg #[.int .u64 0, .int .u64 0]), 2, 16) := by kernel_rfl
theorem num_info : (Tryz.prog.info? 23).map (fun i => (i.zero, i.size, i.bytes)) = some (some (.int .u64 0), 1, 8) := by kernel_rfl

/-- may a run tell something? -/
def mayR (r : Run) : Bool := decide (1 ≤ r.1 ∧ r.1 ≤ r.2 ∧ r.2 ≤ 281474976710655)
theorem may_any (w : World) (lo hi : Nat) (h1 : lo < 18446744073709551616) (h2 : hi < 18446744073709551616) :
    Calls Tryz.prog 135 #[.agg #[.int .u64 (lo : Int), .int .u64 (hi : Int)]] w fun e w' => e = .returned (.bool (mayR (lo, hi))) ∧ Below w.heap.size w w' := by
  by_cases c1 : 1 ≤ lo
  · by_cases c2 : lo ≤ hi
    · have hd : mayR (lo, hi) = decide ((hi : Int) ≤ 281474976710655) := decide_eq_decide.2 ⟨fun h => by have := h.2.2; simp at this; omega, fun h => ⟨c1, c2, by simp; omega⟩⟩
      rw [hd]
      clear hd
      go_enter Tryz.func135, Tryz.ntmps135
      go_wp2
      go_ret
      exact ⟨rfl, below_new w _⟩
    · have hd : mayR (lo, hi) = false := decide_eq_false (fun h => c2 h.2.1)
      have d2 : decide ((lo : Int) ≤ (hi : Int)) = false := decide_eq_false (by omega)
      rw [hd]
      clear hd
      go_enter Tryz.func135, Tryz.ntmps135
      go_wp2
      go_ret
      exact ⟨rfl, below_new w _⟩
  · have hd : mayR (lo, hi) = false := decide_eq_false (fun h => c1 h.1)
    have d1 : decide ((1 : Int) ≤ (lo : Int)) = false := decide_eq_false (by omega)
    rw [hd]
    clear hd
    go_enter Tryz.func135, Tryz.ntmps135
    go_wp2
    go_ret
    exact ⟨rfl, below_new w _⟩

/-- is a number told? -/
def has (l : List Run) (n : Nat) : Bool := l.any fun r => mayR r && (decide (r.1 ≤ n) && decide (n ≤ r.2))
theorem has_take {l : List Run} {k : Nat} {r : Run} {n : Nat} (h : l[k]? = some r) : has (l.take (k + 1)) n = (has (l.take k) n || (mayR r && (decide (r.1 ≤ n) && decide (n ≤ r.2)))) := by
  unfold has
  rw [List.take_add_one, h]
  simp
theorem has_hit {l : List Run} {k : Nat} {r : Run} {n : Nat} (h : l[k]? = some r) (ht : (mayR r && (decide (r.1 ≤ n) && decide (n ≤ r.2))) = true) : has l n = true := by
  unfold has
  exact List.any_eq_true.2 ⟨r, List.mem_of_getElem? h, ht⟩
theorem add_next (ad : Addr) (m : Nat) : (⟨(ad.add m).block, (ad.add m).off + 1, none⟩ : Addr) = ad.add (m + 1) := by
  unfold Addr.add
  by_cases h : m = 0
  · subst h; simp
  · simp [h, Nat.add_assoc]

theorem has_any (w : World) (B : Nat) (A : Option Addr) (l : List Run) (len c n : Nat) (hl : l.length = len) (hb : Runs w B A l) (hB : B ≤ w.heap.size) (h63 : len ≤ 9223372036854775807) (hn : n < 18446744073709551616) :
    Calls Tryz.prog 117 #[.slice A len c, .int .u64 (n : Int)] w fun e w' => e = .returned (.bool (has l n)) ∧ Below w.heap.size w w' := by
  have HB := Lib.hid hb
  have HL := Lib.hid hl
  clear hb hl
  go_enter Tryz.func117, Tryz.ntmps117
  go_wp2
  go_loopw [5] (fun i wr => ∃ k : Nat, k ≤ len ∧ i = .int .i64 (k : Int) ∧ has (l.take k) n = false ∧ Below w.heap.size w wr) (fun i _ => len - (intOf i).toNat)
  case atStart => exact ⟨0, Nat.zero_le _, rfl, rfl, Below.refl _ _⟩
  case round =>
    obtain ⟨k, hk, rfl, hf, hw⟩ := hrel
    have HF := Lib.hid hf
    have HW := Lib.hid hw
    clear hf hw
    by_cases hlt : k < len
    · obtain ⟨ad, lo, hi, rfl, hlk, h1, h2, hc1, hc2⟩ := (HB.out.below ⟨HW.out.os, HW.out.tape, HW.out.output, HW.out.size, fun i hi => HW.out.block i (Nat.lt_of_lt_of_le hi hB)⟩).at_ (k := k) (by rw [HL.out]; exact hlt)
      have LK := Lib.hid hlk
      have hc3 : wr.cell? ⟨(ad.add (k * 2)).block, (ad.add (k * 2)).off + 1, none⟩ = some (.int .u64 (hi : Int)) := by rw [add_next]; exact hc2
      have HM : Hid (∀ W, Below w.heap.size w W → W.cell? (ad.add (k * 2)) = some (.int .u64 (lo : Int)) ∧ W.cell? ⟨(ad.add (k * 2)).block, (ad.add (k * 2)).off + 1, none⟩ = some (.int .u64 (hi : Int))) := fun W hW => by
        obtain ⟨ad', lo', hi', e, hlk', _, _, d1, d2⟩ := (HB.out.below ⟨hW.os, hW.tape, hW.output, hW.size, fun i hi => hW.block i (Nat.lt_of_lt_of_le hi hB)⟩).at_ (k := k) (by rw [HL.out]; exact hlt)
        cases e
        rw [LK.out] at hlk'
        cases hlk'
        exact ⟨d1, by rw [add_next]; exact d2⟩
      clear hlk hc2
      go_wp2_with fail
      refine (may_any wr lo hi h1 h2).mono ?_
      rintro e w2 ⟨rfl, hb2⟩
      have HW2 : Hid (Below w.heap.size w w2) := HW.out.trans (hb2.mono HW.out.size)
      obtain ⟨d1, d3⟩ := HM.out w2 HW2.out
      clear hb2 hc1 hc3
      have HK : Hid ((mayR (lo, hi) && (decide (lo ≤ n) && decide (n ≤ hi))) = true → has l n = true) := fun h => has_hit LK.out h
      have HN : Hid ((mayR (lo, hi) && (decide (lo ≤ n) && decide (n ≤ hi))) = false → has (l.take (k + 1)) n = false) := fun h => by rw [has_take LK.out, HF.out, h]; rfl
      by_cases c1 : mayR (lo, hi) = true
      · by_cases c2 : lo ≤ n
        · by_cases c3 : n ≤ hi
          · have e : Hid (has l n = true) := HK.out (by simp [c1, c2, c3])
            rw [c1]
            go_wp2
            go_ret
            exact ⟨ret_bool e.out.symm, HW2.out⟩
          · have e : Hid (has (l.take (k + 1)) n = false) := HN.out (by simp [c3])
            have c3' : decide ((n : Int) ≤ (hi : Int)) = false := decide_eq_false (by omega)
            rw [c1]
            go_wp2
            go_roundw
            case rel => exact ⟨k + 1, by omega, by go_num, e.out, HW2.out⟩
            case measure => simp [intOf]; omega
        · have e : Hid (has (l.take (k + 1)) n = false) := HN.out (by simp [c2])
          have c2' : decide ((lo : Int) ≤ (n : Int)) = false := decide_eq_false (by omega)
          rw [c1]
          go_wp2
          go_roundw
          case rel => exact ⟨k + 1, by omega, by go_num, e.out, HW2.out⟩
          case measure => simp [intOf]; omega
      · have c1' : mayR (lo, hi) = false := by simpa using c1
        have e : Hid (has (l.take (k + 1)) n = false) := HN.out (by simp [c1'])
        rw [c1']
        go_wp2
        go_roundw
        case rel => exact ⟨k + 1, by omega, by go_num, e.out, HW2.out⟩
        case measure => simp [intOf]; omega
    · obtain rfl : k = len := by omega
      have e : Hid (has l n = false) := by
        have h := HF.out
        rw [List.take_of_length_le (by rw [HL.out]; exact Nat.le_refl _)] at h
        exact h
      go_wp2
      go_ret
      exact ⟨ret_bool e.out.symm, HW.out⟩
end Go.Proofs.YtmhghgogehmehaaGreat.Ru
