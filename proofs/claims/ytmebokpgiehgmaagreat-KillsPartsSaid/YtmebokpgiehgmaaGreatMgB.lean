/- Words and contracts that the proofs of this seat stand on, part 2 of 22. -/
import Derived.Test.YtmebokpgiehgmaaGreatMgA
import Derived.Deep.DeepCutAuto

/- The contracts of the document's Same, All and Few of layer event. For every event and list of events. -/
namespace Go.Proofs.YtmebokpgiehgmaaGreat.Ev
open Go.ChangeShapes Go.WideShapes Go.ChangeAt Go.RowKit
set_option linter.unusedVariables false
set_option maxRecDepth 4000

set_option maxHeartbeats 8000000 in
theorem rsame_any (w : World) (p q : EV) (x y : Evt) (h1 : EventIs w w.heap.size p x) (h2 : EventIs w w.heap.size q y) :
    Calls Tryz.prog 14 #[p.val, q.val] w fun e w' => e = .returned (.bool (decide (x = y))) ∧ Below w.heap.size w w' := by
  have hx := h1.eq
  have hy := h2.eq
  have HB := Lib.hid (below_new2 w p.box q.box)
  have CE := fun (_ : Unit) => Dt.rsame_any ((w.alloc p.box).alloc q.box) w.heap.size w.heap.size p.adr q.adr x.kills y.kills p.len q.len p.cap q.cap h1.kills.len h2.kills.len (h1.kills.dots.below HB.out) (h2.kills.dots.below HB.out) (Nat.le_trans h1.kills.wide (by decide))
  generalize x.kills = xl at hx CE
  generalize y.kills = yl at hy CE
  subst hx hy
  clear h1 h2
  obtain ⟨p1, p2, p3, p4, p5, p6, pA, pn, pc⟩ := p
  obtain ⟨q1, q2, q3, q4, q5, q6, qA, qn, qc⟩ := q
  have hb1 := box_first w ⟨p1, p2, p3, p4, p5, p6, pA, pn, pc⟩ (EV.box ⟨q1, q2, q3, q4, q5, q6, qA, qn, qc⟩)
  have hb2 := box_last w (EV.box ⟨p1, p2, p3, p4, p5, p6, pA, pn, pc⟩) ⟨q1, q2, q3, q4, q5, q6, qA, qn, qc⟩
  obtain ⟨a0, a1, a2, a3, a4, a5, a6⟩ := hb1
  obtain ⟨b0, b1, b2, b3, b4, b5, b6⟩ := hb2
  simp only [EV.val]
  simp only [EV.box, Nat.zero_add] at HB CE a0 a1 a2 a3 a4 a5 a6 b0 b1 b2 b3 b4 b5 b6
  have hs := eq_texts p6 q6
  by_cases e1 : p1 = q1
  · subst e1
    by_cases e2 : p2 = q2
    · subst e2
      by_cases e3 : p3 = q3
      · subst e3
        by_cases e4 : p4 = q4
        · subst e4
          by_cases e5 : p5 = q5
          · subst e5
            by_cases e6 : p6 = q6
            · subst e6
              have hd : Hid (decide ((⟨(p1, p2), p3, p4, p5, p6, xl⟩ : Evt) = ⟨(p1, p2), p3, p4, p5, p6, yl⟩) = decide (xl = yl)) := Lib.hid (by rw [Bool.eq_iff_iff]; simp)
              rw [hd.out]
              rw [decide_eq_true rfl] at hs
              clear hd
              generalize decide (xl = yl) = ans at CE ⊢
              go_enter Tryz.func14, Tryz.ntmps14
              go_wp2_with fail
              refine (CE ()).mono ?_
              rintro e w' ⟨rfl, m, rfl⟩
              go_wp2
              go_ret
              exact ⟨rfl, bel_drewN HB.out _⟩
            · have hd : Hid (decide ((⟨(p1, p2), p3, p4, p5, p6, xl⟩ : Evt) = ⟨(p1, p2), p3, p4, p5, q6, yl⟩) = false) := Lib.hid (decide_eq_false (fun e => e6 (by injection e)))
              rw [hd.out]
              rw [decide_eq_false e6] at hs
              clear hd e6 CE
              go_enter Tryz.func14, Tryz.ntmps14
              go_wp2
              go_ret
              exact ⟨rfl, HB.out⟩
          · have hd : Hid (decide ((⟨(p1, p2), p3, p4, p5, p6, xl⟩ : Evt) = ⟨(p1, p2), p3, p4, q5, q6, yl⟩) = false) := Lib.hid (decide_eq_false (fun e => e5 (by injection e)))
            have hb := beq_nat e5
            rw [hd.out]
            clear hd e5 CE hs
            go_enter Tryz.func14, Tryz.ntmps14
            go_wp2
            go_ret
            exact ⟨rfl, HB.out⟩
        · have hd : Hid (decide ((⟨(p1, p2), p3, p4, p5, p6, xl⟩ : Evt) = ⟨(p1, p2), p3, q4, q5, q6, yl⟩) = false) := Lib.hid (decide_eq_false (fun e => e4 (by injection e)))
          have hb := beq_nat e4
          rw [hd.out]
          clear hd e4 CE hs
          go_enter Tryz.func14, Tryz.ntmps14
          go_wp2
          go_ret
          exact ⟨rfl, HB.out⟩
      · have hd : Hid (decide ((⟨(p1, p2), p3, p4, p5, p6, xl⟩ : Evt) = ⟨(p1, p2), q3, q4, q5, q6, yl⟩) = false) := Lib.hid (decide_eq_false (fun e => e3 (by injection e)))
        have hb := beq_nat e3
        rw [hd.out]
        clear hd e3 CE hs
        go_enter Tryz.func14, Tryz.ntmps14
        go_wp2
        go_ret
        exact ⟨rfl, HB.out⟩
    · have hd : Hid (decide ((⟨(p1, p2), p3, p4, p5, p6, xl⟩ : Evt) = ⟨(p1, q2), q3, q4, q5, q6, yl⟩) = false) := Lib.hid (decide_eq_false (fun e => e2 (by injection e with e _; injection e)))
      have hb := beq_nat e2
      rw [hd.out]
      clear hd e2 CE hs
      go_enter Tryz.func14, Tryz.ntmps14
      go_wp2
      go_ret
      exact ⟨rfl, HB.out⟩
  · have hd : Hid (decide ((⟨(p1, p2), p3, p4, p5, p6, xl⟩ : Evt) = ⟨(q1, q2), q3, q4, q5, q6, yl⟩) = false) := Lib.hid (decide_eq_false (fun e => e1 (by injection e with e _; injection e)))
    have hb := beq_nat e1
    rw [hd.out]
    clear hd e1 CE hs
    go_enter Tryz.func14, Tryz.ntmps14
    go_wp2
    go_ret
    exact ⟨rfl, HB.out⟩

/-- are there few events, with few kills? -/
def fewE (x : Evt) : Bool := decide (x.kills.length ≤ 300) && decide (x.txt.size ≤ 200)
def fewB (l : List Evt) (m : Nat) : Bool := decide (l.length ≤ m) && l.all fewE
def AllFew (l : List Evt) (k : Nat) : Prop := (l.take k).all fewE = true
theorem few_next {l : List Evt} {k : Nat} {x : Evt} (h : AllFew l k) (hx : l[k]? = some x) (hf : fewE x = true) : AllFew l (k + 1) := by
  unfold AllFew at *
  rw [List.take_add_one, hx, List.all_append, h]
  simp [hf]
theorem few_bad {l : List Evt} {k : Nat} {x : Evt} (m : Nat) (hx : l[k]? = some x) (hf : fewE x = false) : fewB l m = false := by
  unfold fewB
  rw [Bool.and_eq_false_iff]
  right
  rw [List.all_eq_false]
  exact ⟨x, List.mem_of_getElem? hx, by rw [hf]; simp⟩

set_option maxHeartbeats 8000000 in
theorem rfew_any (w : World) (A : Option Addr) (l : List Evt) (n c m : Nat) (hm : m ≤ 2147483647) (h : EventsAt w w.heap.size A l n c) :
    Calls Tryz.prog 5 #[.slice A n c, .int .i64 (m : Int)] w fun e w' => e = .returned (.bool (fewB l m)) ∧ w' = w := by
  have H := Lib.hid h
  have h63 : n ≤ 2199023255552 := h.wide
  clear h
  by_cases hn : n ≤ m
  · have hd1 : decide ((m : Int) < (n : Int)) = false := decide_eq_false (by omega)
    go_enter Tryz.func5, Tryz.ntmps5
    go_wp2
    go_loop [5] (fun i => ∃ k : Nat, k ≤ n ∧ i = .int .i64 (k : Int) ∧ AllFew l k) (fun i => n - (intOf i).toNat)
    case atStart => exact ⟨0, Nat.zero_le _, rfl, by simp [AllFew]⟩
    case round =>
      obtain ⟨k, hk, rfl, ht⟩ := hrel
      have HT := Lib.hid ht
      clear ht
      by_cases hlt : k < n
      · obtain ⟨ad, p, x, rfl, _, hlx, hp, cp⟩ := H.out.at_ hlt
        obtain ⟨x0, x1, x2, x3, x4, x5, x6⟩ := cp
        have hkl : x.kills.length = p.len := hp.kills.len
        have hkw : p.len ≤ 8796093022208 := hp.kills.wide
        have htx : p.txt = x.txt := hp.txt
        have hsh : p.txt.size ≤ 140737488355328 := by rw [htx]; exact hp.fits.txt
        have HE : Hid (fewE x = (decide (p.len ≤ 300) && decide (p.txt.size ≤ 200))) := Lib.hid (by unfold fewE; rw [hkl, htx])
        clear hp hkl htx
        by_cases h3 : p.len ≤ 300
        · by_cases h4 : p.txt.size ≤ 200
          · have HS := Lib.hid (few_next HT.out hlx (by rw [HE.out, decide_eq_true h3, decide_eq_true h4]; rfl))
            clear hlx HE
            go_wp2
            go_round
            case rel => exact ⟨k + 1, by omega, by go_num, HS.out⟩
            case measure => simp [intOf]; omega
          · have HS := Lib.hid (few_bad m hlx (by rw [HE.out, decide_eq_false h4]; simp))
            have h5 : 200 < p.txt.size := by omega
            clear hlx HE h4
            go_wp2
            go_ret
            exact ⟨ret_bool HS.out.symm, rfl⟩
        · have HS := Lib.hid (few_bad m hlx (by rw [HE.out, decide_eq_false h3]; rfl))
          have h5 : 300 < p.len := by omega
          clear hlx HE h3
          go_wp2
          go_ret
          exact ⟨ret_bool HS.out.symm, rfl⟩
      · obtain rfl : k = n := by omega
        have HS : Hid (fewB l m = true) := Lib.hid (by
          have h := HT.out
          unfold AllFew at h
          rw [List.take_of_length_le (by rw [H.out.len]; exact Nat.le_refl _)] at h
          unfold fewB
          rw [h, decide_eq_true (by rw [H.out.len]; exact hn)]; rfl)
        go_wp2
        go_ret
        exact ⟨ret_bool HS.out.symm, rfl⟩
  · have hd1 : decide ((m : Int) < (n : Int)) = true := decide_eq_true (by omega)
    have HS : Hid (fewB l m = false) := Lib.hid (by unfold fewB; rw [decide_eq_false (by rw [H.out.len]; exact hn)]; rfl)
    go_enter Tryz.func5, Tryz.ntmps5
    go_wp2
    go_ret
    exact ⟨ret_bool HS.out.symm, rfl⟩
end Go.Proofs.YtmebokpgiehgmaaGreat.Ev

/- The contract of the document's Good of layer event. For every event. -/
namespace Go.Proofs.YtmebokpgiehgmaaGreat.Ev
open Go.ChangeShapes Go.WideShapes Go.ChangeAt Go.RowKit
set_option linter.unusedVariables false
set_option maxRecDepth 4000

theorem empty_text (s : ByteArray) : s.toList.isEmpty = decide (s = ⟨#[]⟩) := by
  rw [Bool.eq_iff_iff, decide_eq_true_iff, ByteArray.toList_eq, List.isEmpty_iff]
  constructor
  · intro h
    exact Fd.ba_of h
  · intro h
    rw [h]

/-- may an event's kind, field and text be? -/
def headB (k f : Nat) (t : ByteArray) : Bool := if k = 1 then Fd.goodB f && Fd.textB t.data.toList else if k = 2 then decide (f = 0) && decide (t = ⟨#[]⟩) else false
/-- may an event be? -/
def goodE (x : Evt) : Bool := (Dt.unpackD x.cid).2 && Dt.mayD x.dot && headB x.kind x.fld x.txt && x.kills.all Dt.mayD && decide (x.kills.length ≤ 256) && Dt.riseB x.kills && !decide (x.dot ∈ x.kills)
def AllMay (l : List Dt.Dot) (k : Nat) : Prop := (l.take k).all Dt.mayD = true
theorem all_none (l : List Dt.Dot) : AllMay l 0 := by simp [AllMay]
theorem all_next {l : List Dt.Dot} {k : Nat} {x : Dt.Dot} (h : AllMay l k) (hx : l[k]? = some x) (hf : Dt.mayD x = true) : AllMay l (k + 1) := by
  unfold AllMay at *
  rw [List.take_add_one, hx, List.all_append, h]
  simp [hf]
theorem all_bad {l : List Dt.Dot} {k : Nat} {x : Dt.Dot} (hx : l[k]? = some x) (hf : Dt.mayD x = false) : l.all Dt.mayD = false := by
  rw [List.all_eq_false]
  exact ⟨x, List.mem_of_getElem? hx, by rw [hf]; simp⟩
theorem all_done {l : List Dt.Dot} {n : Nat} (hn : l.length = n) (h : AllMay l n) : l.all Dt.mayD = true := by
  unfold AllMay at h
  rwa [List.take_of_length_le (by rw [hn]; exact Nat.le_refl _)] at h

end Go.Proofs.YtmebokpgiehgmaaGreat.Ev

/- Lists of dots of one's own: append of any dots to any list of one's own, nil too. Condition: at most 2^43 dots in all. -/
namespace Go.Proofs.YtmebokpgiehgmaaGreat.Dt
open Go.ChangeShapes Go.WideShapes Go.ChangeAt Go.RowKit
set_option linter.unusedVariables false

theorem own_less {w : World} {B B' n size : Nat} {e : TypeId} {v : Value} {xs : List Value} (h : w.ownsRow B' e size v n xs) (hB : B ≤ B') : w.ownsRow B e size v n xs := by
  refine ⟨h.1, ?_⟩
  rcases h.2 with hz | ⟨g, cap, cur, e, hg, hr⟩
  · exact .inl hz
  · exact .inr ⟨g, cap, cur, e, Nat.le_trans hB hg, hr⟩
theorem own_kept {w V : World} {B n size : Nat} {e : TypeId} {v : Value} {xs : List Value} (h : w.ownsRow B e size v n xs) (hb : Below w.heap.size w V) : V.ownsRow B e size v n xs := by
  refine ⟨h.1, ?_⟩
  rcases h.2 with hz | ⟨g, cap, cur, e, hg, hh, hr⟩
  · exact .inl hz
  · have hlt : g < w.heap.size := by
      rcases Nat.lt_or_ge g w.heap.size with h1 | h1
      · exact h1
      · rw [Array.getElem?_eq_none h1] at hh; cases hh
    exact .inr ⟨g, cap, cur, e, hg, (hb.block g hlt).trans hh, hr⟩
theorem own_len {w : World} {B n size : Nat} {e : TypeId} {A : Option Addr} {c : Nat} {xs : List Value} (h : w.ownsRow B e size (.slice A n c) n xs) : n ≤ c ∧ c ≤ 9223372036854775807 ∧ (A = none → n = 0 ∧ c = 0) := by
  rcases h.2 with ⟨h, hz⟩ | ⟨_, _, _, h, _, _, h1, h2, _⟩
  · cases h; exact ⟨by omega, by omega, fun _ => ⟨rfl, rfl⟩⟩
  · cases h; exact ⟨h1, h2, fun e => by cases e⟩
theorem own_form {w : World} {B n size : Nat} {e : TypeId} {v : Value} {xs : List Value} (h : w.ownsRow B e size v n xs) : ∃ A c, v = .slice A n c := by
  rcases h.2 with ⟨rfl, rfl⟩ | ⟨g, cap, _, rfl, _⟩
  · exact ⟨none, 0, rfl⟩
  · exact ⟨_, cap, rfl⟩
theorem lies_any {w : World} {B n c size : Nat} {e : TypeId} {A : Option Addr} {vs : List Value} (hs : 0 < size) (h : w.ownsRow B e size (.slice A n c) n vs) : Lies w w.heap.size A vs := by
  rcases Nat.eq_zero_or_pos n with h0 | h0
  · have h1 := h.1
    rw [h0, Nat.zero_mul] at h1
    rw [List.eq_nil_of_length_eq_zero h1]
    exact Lies.none_ _ _ _
  · obtain ⟨g, cap, e1, _⟩ := own_shape (w := w) h (.inl h0)
    cases e1
    exact lies_own h
theorem dots_own {w : World} {B n c : Nat} {A : Option Addr} {m : List Dot} (h : w.ownsRow B 28 2 (.slice A n c) n (dv m)) (hf : Fit m) : Dots w w.heap.size A m := ⟨hf, lies_any (by decide) h⟩
theorem dot_at (W : World) (r : Dot) : ∀ (j : Nat) (u : Value), (dv [r])[j]? = some u → (W.alloc (.cells #[.int .u16 (r.1 : Int), .int .u64 (r.2 : Int)] 28)).cell? ((⟨W.heap.size, 0, none⟩ : Addr).add j) = some u := by
  intro j u hu
  rw [zero_add, World.cell?_alloc_new]
  have e : dv [r] = [.int .u16 (r.1 : Int), .int .u64 (r.2 : Int)] := rfl
  rw [e] at hu
  simpa using hu
theorem run_any (w : World) (B k : Nat) (v : Value) (xs : List Dot) (A : Option Addr) (m : List Dot) (n c : Nat) (ho : w.ownsRow B 28 2 v k (dv xs)) (hA : A = none → n = 0 ∧ c = 0) (hb : Lies w w.heap.size A (dv m)) (hl : m.length = n)
    (hn : k + n ≤ 8796093022208) (hB : B ≤ w.heap.size) :
    ∃ A' c' w', (Builtin.append_ #[22, 22] 22 #[v, .slice A n c]).run Tryz.prog w = .ok (.slice A' (k + n) c') w' ∧
      w'.ownsRow B 28 2 (.slice A' (k + n) c') (k + n) (dv (xs ++ m)) ∧ w.grownBy w' v.ownBlock := by
  obtain ⟨i0, hi0, hz0, hz1, hz2⟩ := info_parts dot_info
  cases A with
  | none =>
    obtain ⟨rfl, rfl⟩ := hA rfl
    obtain rfl := List.eq_nil_of_length_eq_zero hl
    obtain ⟨A', c', rfl⟩ := own_form ho
    exact ⟨A', c', w, run_append_owned_none (P := Tryz.prog) (w := w) B 22 22 28 i0 2 Tryz.underlying22 hi0 _ k (dv xs) ho, by rw [List.append_nil]; exact ho, turn_refl _ _⟩
  | some ad =>
    have hc : ∀ j u, (dv m)[j]? = some u → w.cell? (ad.add j) = some u := by
      intro j u hu
      have hjl : j < (dv m).length := (List.getElem?_eq_some_iff.1 hu).1
      obtain ⟨ad', e, hadb, hc⟩ := hb (by omega)
      obtain rfl := Option.some.inj e
      exact hc j u hu
    obtain ⟨v', w', hr, h2, h3, hat, h5⟩ := run_append_own_at (P := Tryz.prog) w B 22 22 28 i0 (.agg #[.int .u16 0, .int .u64 0]) 2 16 Tryz.underlying22 hi0 hz0 hz1 hz2 rfl (by decide) v k (dv xs) ho ad n c (dv m) (by rw [dv_length, hl]) hc (dv_one m) (by simp only [maxLen]; omega) (by omega) hB
    obtain ⟨A', c', rfl⟩ := own_form h2
    exact ⟨A', c', w', hr, by rw [dv_append]; exact h2, h3⟩
theorem wpList_any {ops : Array Oper} {rest : List Oper} {o : Oper} {a : Act} {Q : Exit → Act → World → Prop} (hgd : o.guard = none) (s x : Operand) (ho : o.op = .call { callee := .builtin .append, args := #[s, x], argTypes := #[22, 22] }) (hty : o.type = 22)
    (w : World) (B k : Nat) (v : Value) (xs : List Dot) (A : Option Addr) (m : List Dot) (n c : Nat) (hs : a.eval s = v) (hx : a.eval x = .slice A n c) (hw : w.ownsRow B 28 2 v k (dv xs)) (hA : A = none → n = 0 ∧ c = 0) (hb : Lies w w.heap.size A (dv m)) (hl : m.length = n)
    (hn : k + n ≤ 8796093022208) (hB : B ≤ w.heap.size)
    (hK : ∀ A' c' w', w'.ownsRow B 28 2 (.slice A' (k + n) c') (k + n) (dv (xs ++ m)) → w.grownBy w' v.ownBlock → wpList Tryz.prog ops Q rest (a.put o.dst (.slice A' (k + n) c')) w') : wpList Tryz.prog ops Q (o :: rest) a w := by
  refine wpList_plain hgd fun K hQ => ?_
  obtain ⟨A', c', w', hr, h2, h3⟩ := run_any w B k v xs A m n c hw hA hb hl hn hB
  rw [← hty] at hr
  unfold Oper.wp execOp
  simp only [ho, resolve, invoke, builtin, Sem.run_bind, Sem.run_pure, Result.andThen_ok, List.map_toArray, List.map_cons, List.map_nil, hs, hx]
  rw [hty] at hr ⊢
  rw [hr]
  exact hQ _ _ (hK _ _ _ h2 h3)
/-- a list of one's own has grown: what lay, lies. -/
theorem any_grown {w wr w2 : World} {v : Value} {m : Nat} {xs : List Value} (ho : wr.ownsRow w.heap.size 28 2 v m xs) (hb : Below w.heap.size w wr) (hg : wr.grownBy w2 v.ownBlock) : Below w.heap.size w w2 :=
  hb.grown hg hb.size (fun k hk => (ho.lt k hk).1)
/-- a new block that is one dot. -/
theorem lies_one (V : World) (r : Dot) : Lies (V.alloc (.cells #[.int .u16 (r.1 : Int), .int .u64 (r.2 : Int)] 28)) (V.alloc (.cells #[.int .u16 (r.1 : Int), .int .u64 (r.2 : Int)] 28)).heap.size (some ⟨V.heap.size, 0, none⟩) (dv [r]) :=
  fun _ => ⟨_, rfl, by simp, dot_at V r⟩

/-- a list of dots comes out. -/
def DotPost (w : World) (m : List Dot) (e : Ending) (w' : World) : Prop := ∃ A n c, e = .returned (.slice A n c) ∧ m.length = n ∧ w'.ownsRow w.heap.size 28 2 (.slice A n c) n (dv m) ∧ Below w.heap.size w w'
theorem post_dots {w w' : World} {m : List Dot} {e : Ending} (h : DotPost w m e w') (hf : Fit m) : ∃ A n c, e = .returned (.slice A n c) ∧ m.length = n ∧ (A = none → n = 0 ∧ c = 0) ∧ n ≤ c ∧ c ≤ 9223372036854775807 ∧ Dots w' w'.heap.size A m ∧ w'.ownsRow w.heap.size 28 2 (.slice A n c) n (dv m) ∧ Below w.heap.size w w' := by
  obtain ⟨A, n, c, rfl, hn, ho, hb⟩ := h
  obtain ⟨h1, h2, h3⟩ := own_len ho
  exact ⟨A, n, c, rfl, hn, h3, h1, h2, dots_own ho hf, ho, hb⟩

/-- a dot more, in its place. -/
def putD (l : List Dot) (d : Dot) : List Dot := l.filter (fun x => aheadD x d) ++ [d] ++ l.filter (fun x => aheadD d x)
def sortD (l : List Dot) : List Dot := l.foldl putD []
theorem ahead_iff (a b : Dot) : aheadD a b = true ↔ a.1 < b.1 ∨ (a.1 = b.1 ∧ a.2 < b.2) := decide_eq_true_iff
theorem cmp_neg (x d : Dot) : decide (cmpD x d < 0) = aheadD x d := by
  cases h : aheadD x d with
  | true => exact decide_eq_true (by rw [cmp_less h]; omega)
  | false => exact decide_eq_false (by have := cmp_sign x d h; omega)
theorem cmp_pos (x d : Dot) : decide (0 < cmpD x d) = aheadD d x := by
  cases h : aheadD d x with
  | true => exact decide_eq_true (by rw [cmp_more h]; omega)
  | false =>
    apply decide_eq_false
    unfold cmpD
    split
    · omega
    · rename_i hne
      have h2 : aheadD x d = true := by
        rw [ahead_iff]
        have h3 : ¬ (d.1 < x.1 ∨ (d.1 = x.1 ∧ d.2 < x.2)) := fun h' => by rw [(ahead_iff d x).2 h'] at h; exact absurd h (by simp)
        have h4 : ¬ (x.1 = d.1 ∧ x.2 = d.2) := fun h' => hne (Prod.ext h'.1 h'.2)
        omega
      rw [if_pos h2]; omega
theorem filter_next (f : Dot → Bool) {l : List Dot} {k : Nat} {x : Dot} (h : l[k]? = some x) : (l.take (k + 1)).filter f = (l.take k).filter f ++ (if f x = true then [x] else []) := by
  rw [take_next h, List.filter_append]
  by_cases hf : f x = true
  · simp [hf]
  · simp [hf]
theorem fit_put {l : List Dot} {d : Dot} (h : Fit l) (hd : d.1 < 65536 ∧ d.2 < 18446744073709551616) : Fit (putD l d) := by
  intro r hr
  unfold putD at hr
  simp only [List.mem_append, List.mem_filter, List.mem_singleton] at hr
  rcases hr with (hr | rfl) | hr
  · exact h r hr.1
  · exact hd
  · exact h r hr.1
theorem put_length (l : List Dot) (d : Dot) : (putD l d).length ≤ l.length + 1 := by
  have h : ∀ m : List Dot, (m.filter (fun x => aheadD x d)).length + (m.filter (fun x => aheadD d x)).length ≤ m.length := by
    intro m
    induction m with
    | nil => simp
    | cons x m ih =>
      have hx : ¬ (aheadD x d = true ∧ aheadD d x = true) := by
        rintro ⟨h1, h2⟩
        rw [ahead_iff] at h1 h2
        omega
      by_cases h1 : aheadD x d = true
      · have h2 : ¬ aheadD d x = true := fun h => hx ⟨h1, h⟩
        simp [h1, h2]; omega
      · by_cases h2 : aheadD d x = true
        · simp [h1, h2]; omega
        · simp [h1, h2]; omega
  have := h l
  unfold putD
  simp only [List.length_append, List.length_singleton]
  omega
end Go.Proofs.YtmebokpgiehgmaaGreat.Dt

/- Lists of events of one's own (append), and what the document's Put of layer event comes to. Condition: at most 3 * 2^39 events in all. -/
namespace Go.Proofs.YtmebokpgiehgmaaGreat.Ev
open Go.ChangeShapes Go.WideShapes Go.ChangeAt Go.RowKit
set_option linter.unusedVariables false
set_option maxRecDepth 4000

theorem evt_info : (Tryz.prog.info? 30).map (fun i => (i.zero, i.size, i.bytes)) = some (some (.agg #[.int .u16 0, .int .u64 0, .int .u8 0, .int .u64 0, .int .u8 0, .string ⟨#[]⟩, .slice none 0 0]), 7, 80) := by kernel_rfl
/-- a new block that is one event. -/
theorem lies_evt (V : World) (q : EV) : Dt.Lies (V.alloc q.box) (V.alloc q.box).heap.size (some ⟨V.heap.size, 0, none⟩) (ev [q]) := fun _ => by
  refine ⟨_, rfl, by rw [alloc_size]; exact Nat.lt_succ_self _, fun j u hu => ?_⟩
  rw [Dt.zero_add, World.cell?_alloc_new]
  have e : ev [q] = q.cells := by simp [ev]
  rw [e] at hu
  simpa using hu
theorem run_evt (w : World) (B k : Nat) (v : Value) (xs : List EV) (A : Option Addr) (m : List EV) (n c : Nat) (ho : w.ownsRow B 30 7 v k (ev xs)) (hA : A = none → n = 0 ∧ c = 0) (hb : Dt.Lies w w.heap.size A (ev m)) (hl : m.length = n)
    (hn : k + n ≤ 1649267441664) (hB : B ≤ w.heap.size) :
    ∃ A' c' w', (Builtin.append_ #[33, 33] 33 #[v, .slice A n c]).run Tryz.prog w = .ok (.slice A' (k + n) c') w' ∧
      w'.ownsRow B 30 7 (.slice A' (k + n) c') (k + n) (ev (xs ++ m)) ∧ w.grownBy w' v.ownBlock := by
  obtain ⟨i0, hi0, hz0, hz1, hz2⟩ := info_parts evt_info
  cases A with
  | none =>
    obtain ⟨rfl, rfl⟩ := hA rfl
    obtain rfl := List.eq_nil_of_length_eq_zero hl
    obtain ⟨A', c', rfl⟩ := Dt.own_form ho
    exact ⟨A', c', w, run_append_owned_none (P := Tryz.prog) (w := w) B 33 33 30 i0 7 Tryz.underlying33 hi0 _ k (ev xs) ho, by rw [List.append_nil]; exact ho, Dt.turn_refl _ _⟩
  | some ad =>
    have hc : ∀ j u, (ev m)[j]? = some u → w.cell? (ad.add j) = some u := by
      intro j u hu
      have hjl : j < (ev m).length := (List.getElem?_eq_some_iff.1 hu).1
      obtain ⟨ad', e, hadb, hc⟩ := hb (by omega)
      obtain rfl := Option.some.inj e
      exact hc j u hu
    obtain ⟨v', w', hr, h2, h3, hat, h5⟩ := run_append_own_at (P := Tryz.prog) w B 33 33 30 i0 (.agg #[.int .u16 0, .int .u64 0, .int .u8 0, .int .u64 0, .int .u8 0, .string ⟨#[]⟩, .slice none 0 0]) 7 80 Tryz.underlying33 hi0 hz0 hz1 hz2 rfl (by decide) v k (ev xs) ho ad n c (ev m) (by rw [ev_length, hl]) hc (ev_one m) (by simp only [maxLen]; omega) (by omega) hB
    obtain ⟨A', c', rfl⟩ := Dt.own_form h2
    exact ⟨A', c', w', hr, by rw [ev_append]; exact h2, h3⟩
theorem wpList_evt {ops : Array Oper} {rest : List Oper} {o : Oper} {a : Act} {Q : Exit → Act → World → Prop} (hgd : o.guard = none) (s x : Operand) (ho : o.op = .call { callee := .builtin .append, args := #[s, x], argTypes := #[33, 33] }) (hty : o.type = 33)
    (w : World) (B k : Nat) (v : Value) (xs : List EV) (A : Option Addr) (m : List EV) (n c : Nat) (hs : a.eval s = v) (hx : a.eval x = .slice A n c) (hw : w.ownsRow B 30 7 v k (ev xs)) (hA : A = none → n = 0 ∧ c = 0) (hb : Dt.Lies w w.heap.size A (ev m)) (hl : m.length = n)
    (hn : k + n ≤ 1649267441664) (hB : B ≤ w.heap.size)
    (hK : ∀ A' c' w', w'.ownsRow B 30 7 (.slice A' (k + n) c') (k + n) (ev (xs ++ m)) → w.grownBy w' v.ownBlock → wpList Tryz.prog ops Q rest (a.put o.dst (.slice A' (k + n) c')) w') : wpList Tryz.prog ops Q (o :: rest) a w := by
  refine wpList_plain hgd fun K hQ => ?_
  obtain ⟨A', c', w', hr, h2, h3⟩ := run_evt w B k v xs A m n c hw hA hb hl hn hB
  rw [← hty] at hr
  unfold Oper.wp execOp
  simp only [ho, resolve, invoke, builtin, Sem.run_bind, Sem.run_pure, Result.andThen_ok, List.map_toArray, List.map_cons, List.map_nil, hs, hx]
  rw [hty] at hr ⊢
  rw [hr]
  exact hQ _ _ (hK _ _ _ h2 h3)
/-- a list of one's own has grown: what lay, lies. -/
theorem evt_grown {w wr w2 : World} {v : Value} {m : Nat} {xs : List Value} (ho : wr.ownsRow w.heap.size 30 7 v m xs) (hb : Below w.heap.size w wr) (hg : wr.grownBy w2 v.ownBlock) : Below w.heap.size w w2 :=
  hb.grown hg hb.size (fun k hk => (ho.lt k hk).1)
theorem bel_alloc {w W : World} (o : Obj) (h : Below w.heap.size w W) : Below w.heap.size w (W.alloc o) := h.alloc h.size o

/-- a list of events comes out. -/
def EvPost (w : World) (l : List Evt) (e : Ending) (w' : World) : Prop := ∃ A n c, e = .returned (.slice A n c) ∧ EventsAt w' w'.heap.size A l n c ∧ Below w.heap.size w w'
/-- one event more: has the new one been put, and the list so far. -/
def stepE (e : Evt) (s : Bool × List Evt) (x : Evt) : Bool × List Evt := if Dt.aheadD e.dot x.dot = true ∧ s.1 = false then (true, s.2 ++ [e, x]) else (s.1, s.2 ++ [x])
def stE (l : List Evt) (e : Evt) (k : Nat) : Bool × List Evt := (l.take k).foldl (stepE e) (false, [])
/-- an event more, in its place, but that one with its dot is there. -/
noncomputable def putE (l : List Evt) (e : Evt) : List Evt := if ∃ x ∈ l, x.dot = e.dot then l else if (stE l e l.length).1 = true then (stE l e l.length).2 else (stE l e l.length).2 ++ [e]
theorem st_next {l : List Evt} {e x : Evt} {k : Nat} (h : l[k]? = some x) : stE l e (k + 1) = stepE e (stE l e k) x := by
  unfold stE
  rw [List.take_add_one, h, List.foldl_append]
  rfl
theorem st_long (l : List Evt) (e : Evt) (k : Nat) : (stE l e k).2.length ≤ k + (if (stE l e k).1 = true then 1 else 0) := by
  have h : ∀ (m : List Evt) (s : Bool × List Evt), (m.foldl (stepE e) s).2.length + (if s.1 = true then 1 else 0) ≤ s.2.length + m.length + (if (m.foldl (stepE e) s).1 = true then 1 else 0) := by
    intro m
    induction m with
    | nil => intro s; exact Nat.le_refl _
    | cons x m ih =>
      intro s
      have h1 := ih (stepE e s x)
      rw [List.foldl_cons]
      unfold stepE at h1 ⊢
      obtain ⟨b, t⟩ := s
      by_cases hc : Dt.aheadD e.dot x.dot = true ∧ b = false
      · rw [if_pos hc] at h1 ⊢
        obtain ⟨_, rfl⟩ := hc
        simp only [List.length_append, List.length_cons, List.length_nil] at h1 ⊢
        simp only [reduceIte, Bool.false_eq_true] at h1 ⊢
        omega
      · rw [if_neg hc] at h1 ⊢
        simp only [List.length_append, List.length_cons, List.length_nil] at h1 ⊢
        omega
  have h2 := h (l.take k) (false, [])
  have h3 : (l.take k).length ≤ k := List.length_take_le _ _
  unfold stE
  simp only [List.length_nil, Bool.false_eq_true, if_false, Nat.add_zero, Nat.zero_add] at h2
  omega
theorem put_there {l : List Evt} {e x : Evt} {k : Nat} (h : l[k]? = some x) (hd : x.dot = e.dot) : putE l e = l := by
  unfold putE
  rw [if_pos ⟨x, List.mem_of_getElem? h, hd⟩]
/-- no event so far has the dot. -/
def NoDot (l : List Evt) (e : Evt) (k : Nat) : Prop := ∀ j x, j < k → l[j]? = some x → x.dot ≠ e.dot
theorem nodot_next {l : List Evt} {e x : Evt} {k : Nat} (h : NoDot l e k) (hx : l[k]? = some x) (hd : x.dot ≠ e.dot) : NoDot l e (k + 1) := fun j y hj hy => by
  rcases Nat.lt_succ_iff_lt_or_eq.1 hj with h2 | rfl
  · exact h j y h2 hy
  · rw [hx] at hy; cases hy; exact hd
theorem put_done {l : List Evt} {e : Evt} {n : Nat} (hn : l.length = n) (h : NoDot l e n) : putE l e = if (stE l e n).1 = true then (stE l e n).2 else (stE l e n).2 ++ [e] := by
  unfold putE
  rw [if_neg (fun ⟨x, hx, hd⟩ => by obtain ⟨j, hj, rfl⟩ := List.getElem_of_mem hx; exact h j _ (by omega) (List.getElem?_eq_getElem hj) hd), hn]
theorem match_snoc {w : World} {B : Nat} {ps : List EV} {l : List Evt} {p : EV} {x : Evt} (h : Match w B ps l) (hp : EventIs w B p x) : Match w B (ps ++ [p]) (l ++ [x]) := h.snoc hp
/-- what a round of Put knows. -/
def PRel (w w1 : World) (n : Nat) (l : List Evt) (x : Evt) (v b i : Value) (wr : World) : Prop :=
  ∃ k m A c ps, k ≤ n ∧ i = .int .i64 ((k : Nat) : Int) ∧ b = .bool (stE l x k).1 ∧ v = .slice A m c ∧ ps.length = m ∧ Match w w.heap.size ps (stE l x k).2 ∧ wr.ownsRow w1.heap.size 30 7 (.slice A m c) m (ev ps) ∧ NoDot l x k ∧ Below w1.heap.size w1 wr
theorem own_events {w w1 wr : World} {A : Option Addr} {m c : Nat} {ps : List EV} {l : List Evt} (hb : Below w.heap.size w wr) (hm : Match w w.heap.size ps l) (hl : ps.length = m) (hw : m ≤ 2199023255552) (ho : wr.ownsRow w1.heap.size 30 7 (.slice A m c) m (ev ps)) : EventsAt wr wr.heap.size A l m c := by
  obtain ⟨h1, h2, h3⟩ := Dt.own_len ho
  exact ⟨by rw [← hm.1]; exact hl, h3, h1, h2, hw, ps, Dt.lies_any (by decide) ho, (hm.below hb).more hb.size⟩
end Go.Proofs.YtmebokpgiehgmaaGreat.Ev

/- The contract of the document's Put of layer event. For every list of at most 2^40 events. -/
namespace Go.Proofs.YtmebokpgiehgmaaGreat.Ev
open Go.ChangeShapes Go.WideShapes Go.ChangeAt Go.RowKit
set_option linter.unusedVariables false
set_option maxRecDepth 4000

theorem bel_drew {w W : World} (h : Below w.heap.size w W) : Below w.heap.size w W.drew := h.drew
theorem cells_later {w V : World} {a : Addr} {p : EV} (h : CellsAt w a p) (hb : Below w.heap.size w V) : CellsAt V a p := h.kept hb
theorem cmp_zero {a b : Dt.Dot} (h : ¬ a = b) : (Dt.cmpD a b == 0) = false := by
  rw [beq_eq_false_iff_ne]
  unfold Dt.cmpD
  rw [if_neg h]
  split <;> omega
theorem is_dot {w : World} {B : Nat} {p : EV} {x : Evt} (h : EventIs w B p x) : x.dot = (p.dev, p.num) := by rw [h.dev, h.num]
theorem p_rel {w w1 wr : World} {n k m c : Nat} {A : Option Addr} {l : List Evt} {x y : Evt} {ps : List EV} {b : Bool} {o : List Evt} (hk : k < n) (hy : l[k]? = some y) (hs : stepE x (stE l x k) y = (b, o)) (hm : ps.length = m) (hma : Match w w.heap.size ps o) (ho : wr.ownsRow w1.heap.size 30 7 (.slice A m c) m (ev ps)) (hn : NoDot l x k) (hd : y.dot ≠ x.dot) (hb : Below w1.heap.size w1 wr) :
    PRel w w1 n l x (.slice A m c) (.bool b) (.int .i64 ((k : Int) + 1)) wr := by
  have h := st_next (e := x) hy
  rw [hs] at h
  exact ⟨k + 1, m, A, c, ps, hk, by go_num, by rw [h], rfl, hm, by rw [h]; exact hma, ho, nodot_next hn hy hd, hb⟩

end Go.Proofs.YtmebokpgiehgmaaGreat.Ev

/- The contracts of the document's Put and Sort of layer dot. Put: for every list of at most 2^42 dots. -/
namespace Go.Proofs.YtmebokpgiehgmaaGreat.Dt
open Go.ChangeShapes Go.WideShapes Go.ChangeAt Go.RowKit
set_option linter.unusedVariables false

theorem bel_alloc {w W : World} (o : Obj) (h : Below w.heap.size w W) : Below w.heap.size w (W.alloc o) := h.alloc h.size o
/-- what a round of Put knows: the dots so far, of one's own; the world. -/
def PRel (w1 : World) (n : Nat) (f : Nat → List Dot) (v i : Value) (wr : World) : Prop :=
  ∃ k m A c, k ≤ n ∧ i = .int .i64 ((k : Nat) : Int) ∧ v = .slice A m c ∧ (f k).length = m ∧ wr.ownsRow w1.heap.size 28 2 (.slice A m c) m (dv (f k)) ∧ Below w1.heap.size w1 wr
theorem p_rel {w1 wr : World} {n k m c : Nat} {A : Option Addr} {f : Nat → List Dot} {o : List Dot} (hk : k < n) (hs : f (k + 1) = o) (hm : o.length = m) (ho : wr.ownsRow w1.heap.size 28 2 (.slice A m c) m (dv o)) (hb : Below w1.heap.size w1 wr) : PRel w1 n f (.slice A m c) (.int .i64 ((k : Int) + 1)) wr :=
  ⟨k + 1, m, A, c, hk, by go_num, rfl, by rw [hs]; exact hm, by rw [hs]; exact ho, hb⟩

set_option maxHeartbeats 8000000 in
theorem rput_any (w : World) (A0 : Option Addr) (l : List Dot) (n c0 : Nat) (d : Dot) (hl : l.length = n) (hb : Dots w w.heap.size A0 l) (h42 : n ≤ 4398046511104) :
    Calls Tryz.prog 23 #[.slice A0 n c0, .agg #[.int .u16 (d.1 : Int), .int .u64 (d.2 : Int)]] w (DotPost w (putD l d)) := by
  have HL := Lib.hid hl
  have HB1 : Hid (Below w.heap.size w (w.alloc (.cells #[.int .u16 (d.1 : Int), .int .u64 (d.2 : Int)] 28))) := below_new w _
  have hd0 : (w.alloc (.cells #[.int .u16 (d.1 : Int), .int .u64 (d.2 : Int)] 28)).cell? ⟨w.heap.size, 0, none⟩ = some (.int .u16 (d.1 : Int)) := by rw [World.cell?_alloc_mark]; rfl
  have hd1 : (w.alloc (.cells #[.int .u16 (d.1 : Int), .int .u64 (d.2 : Int)] 28)).cell? ⟨w.heap.size, 1, none⟩ = some (.int .u64 (d.2 : Int)) := by rw [World.cell?_alloc_mark]; rfl
  have H1 := Lib.hid (hb.up (below_new w (.cells #[.int .u16 (d.1 : Int), .int .u64 (d.2 : Int)] 28)))
  clear hb hl
  go_enter Tryz.func23, Tryz.ntmps23
  go_wp2_with fail
  generalize hw1 : w.alloc (.cells #[.int .u16 (d.1 : Int), .int .u64 (d.2 : Int)] 28) = w1 at *
  clear hw1
  have HD : Hid (∀ V, Below w1.heap.size w1 V → V.cell? ⟨w.heap.size, 0, none⟩ = some (.int .u16 (d.1 : Int)) ∧ V.cell? ⟨w.heap.size, 1, none⟩ = some (.int .u64 (d.2 : Int))) := fun V hV => ⟨(hV.cell (World.block_lt_of_cell? w1 _ hd0)).trans hd0, (hV.cell (World.block_lt_of_cell? w1 _ hd1)).trans hd1⟩
  clear hd0 hd1
  obtain ⟨f, hf⟩ : ∃ f : Nat → List Dot, f = fun k => (l.take k).filter (fun x => aheadD x d) := ⟨_, rfl⟩
  have HF : Hid (∀ k, (f k).length ≤ k) := Lib.hid (fun k => by rw [hf]; exact Nat.le_trans (List.length_filter_le _ _) (List.length_take_le _ _))
  have HFE : Hid (∀ k, f k = (l.take k).filter (fun x => aheadD x d)) := Lib.hid (fun k => by rw [hf])
  clear hf
  go_loopw [5, 6] (fun v i wr => PRel w1 n f v i wr) (fun _ i _ => n - (intOf i).toNat)
  case atStart => exact ⟨0, 0, none, 0, Nat.zero_le _, rfl, rfl, by rw [HFE.out]; rfl, by rw [HFE.out]; exact World.ownsRow_nil _ _ _ _, Below.refl _ _⟩
  case round =>
    obtain ⟨k, m, A, c, hk, rfl, rfl, hm, ho, hw⟩ := hrel
    have hmk : m ≤ k := by rw [← hm]; exact HF.out k
    have HM := Lib.hid hm
    have HO := Lib.hid ho
    have HW := Lib.hid hw
    clear hm ho hw
    by_cases hlt : k < n
    · obtain ⟨ad, x, rfl, hB, hlx, hx1, hx2, hcx⟩ := H1.out.cells (k := k) (by rw [HL.out]; exact hlt)
      have HN := Lib.hid (filter_next (fun x => aheadD x d) hlx)
      clear hlx
      have HC : Hid (∀ V, Below wr.heap.size wr V → (V.cell? (ad.add (k * 2)) = some (.int .u16 (x.1 : Int)) ∧ V.cell? ⟨(ad.add (k * 2)).block, (ad.add (k * 2)).off + 1, none⟩ = some (.int .u64 (x.2 : Int))) ∧ V.cell? ⟨w.heap.size, 0, none⟩ = some (.int .u16 (d.1 : Int)) ∧ V.cell? ⟨w.heap.size, 1, none⟩ = some (.int .u64 (d.2 : Int))) := fun V hV =>
        ⟨hcx V (HW.out.trans (hV.mono HW.out.size)), HD.out V (HW.out.trans (hV.mono HW.out.size))⟩
      clear hcx
      obtain ⟨⟨d1, d2⟩, d3, d4⟩ := HC.out wr (Below.refl _ _)
      go_wp2_with fail
      go_region_held3 (fun V => (V.cell? (ad.add (k * 2)) = some (.int .u16 (x.1 : Int)) ∧ V.cell? ⟨(ad.add (k * 2)).block, (ad.add (k * 2)).off + 1, none⟩ = some (.int .u64 (x.2 : Int))) ∧ V.cell? ⟨w.heap.size, 0, none⟩ = some (.int .u16 (d.1 : Int)) ∧ V.cell? ⟨w.heap.size, 1, none⟩ = some (.int .u64 (d.2 : Int))) (first | exact ⟨⟨d1, d2⟩, d3, d4⟩ | assumption | exact HC.out _ (by (repeat (first | exact Below.refl _ _ | assumption | apply bel_drew)))) (first
        | (go_at_call 43; (with_reducible refine (rcmp_later wr _ x d ?_).mono ?_); (repeat (first | exact Below.refl _ _ | assumption | apply bel_drew)); rintro e V ⟨rfl, bv⟩; have hcV := HC.out V bv))
      all_goals
        have HV : Hid (Below w1.heap.size w1 V) := HW.out.trans (bv.mono HW.out.size)
        have HOV := Lib.hid (own_kept HO.out bv)
        obtain ⟨⟨v1, v2⟩, _⟩ := hcV
        clear bv d1 d2 d3 d4
        rw [cmp_neg]
        cases ha : aheadD x d with
        | true =>
          rw [ha] at HN
          have HLO : Hid (m + 1 ≤ 8796093022208) := Lib.hid (by omega)
          have HWA : Hid (Below w1.heap.size w1 (V.alloc (.cells #[.int .u16 (x.1 : Int), .int .u64 (x.2 : Int)] 28))) := bel_alloc _ HV.out
          have HS : Hid (f (k + 1) = f k ++ [x]) := Lib.hid (by rw [HFE.out, HFE.out]; exact HN.out.trans (by rw [if_pos rfl]))
          clear ha
          go_wp2_with (at_builtin; refine wpList_any rfl (.tmp 21) (.tmp 26) rfl rfl _ w1.heap.size m (.slice A m c) (f k) (some ⟨V.heap.size, 0, none⟩) [x] 1 1 rfl rfl (HOV.out.alloc _) (fun h => by cases h) (lies_one V x) rfl HLO.out HWA.out.size ?_; intro A3 c3 V3 ho3 hg3; have HR := Lib.hid (p_rel hlt HS.out (by rw [List.length_append, HM.out]; rfl) ho3 (any_grown (HOV.out.alloc _) HWA.out hg3)); clear ho3 hg3)
          go_roundw
          case rel => exact HR.out
          case measure => simp [intOf]; omega
        | false =>
          rw [ha] at HN
          have HS : Hid (f (k + 1) = f k) := Lib.hid (by rw [HFE.out, HFE.out]; exact HN.out.trans (by rw [if_neg (by simp), List.append_nil]))
          have HR := Lib.hid (p_rel hlt HS.out HM.out HOV.out HV.out)
          clear ha v1 v2
          go_wp2
          go_roundw
          case rel => exact HR.out
          case measure => simp [intOf]; omega
    · obtain rfl : n = k := by omega
      have HE : Hid (f n = l.filter (fun x => aheadD x d)) := Lib.hid (by rw [HFE.out, List.take_of_length_le (by rw [HL.out]; exact Nat.le_refl _)])
      obtain ⟨d3, d4⟩ := HD.out wr HW.out
      have HLO : Hid (m + 1 ≤ 8796093022208) := Lib.hid (by omega)
      have HWA : Hid (Below w1.heap.size w1 (wr.alloc (.cells #[.int .u16 (d.1 : Int), .int .u64 (d.2 : Int)] 28))) := bel_alloc _ HW.out
      go_wp2_with (at_builtin; refine wpList_any rfl (.tmp 28) (.tmp 30) rfl rfl _ w1.heap.size m (.slice A m c) (f n) (some ⟨wr.heap.size, 0, none⟩) [d] 1 1 rfl rfl (HO.out.alloc _) (fun h => by cases h) (lies_one wr d) rfl HLO.out HWA.out.size ?_; intro A3 c3 V3 ho3 hg3; have HO3 := Lib.hid ho3; have HW3 := Lib.hid (any_grown (HO.out.alloc _) HWA.out hg3); clear ho3 hg3)
      obtain ⟨g, hg⟩ : ∃ g : Nat → List Dot, g = fun j => l.filter (fun x => aheadD x d) ++ [d] ++ (l.take j).filter (fun x => aheadD d x) := ⟨_, rfl⟩
      have HGE : Hid (∀ j, g j = l.filter (fun x => aheadD x d) ++ [d] ++ (l.take j).filter (fun x => aheadD d x)) := Lib.hid (fun j => by rw [hg])
      have HG : Hid (∀ j, (g j).length ≤ n + 1) := Lib.hid (fun j => by
        have h1 := put_length l d
        have h2 : ((l.take j).filter (fun x => aheadD d x)).length ≤ (l.filter (fun x => aheadD d x)).length := ((List.take_sublist j l).filter _).length_le
        rw [HL.out] at h1
        rw [HGE.out]
        unfold putD at h1
        simp only [List.length_append] at h1 ⊢
        omega)
      clear hg d3 d4 HLO
      have HS0 : Hid (g 0 = f n ++ [d]) := Lib.hid (by rw [HGE.out, HE.out]; simp)
      have HM0 : Hid ((f n ++ [d]).length = m + 1) := Lib.hid (by rw [List.length_append, HM.out]; rfl)
      clear hmk HF HFE HM HO HW HWA HE hlt hk
      generalize f n = fk at HS0 HM0 HO3
      go_loopw [5, 7] (fun v i wr => PRel w1 n g v i wr) (fun _ i _ => n - (intOf i).toNat)
      case atStart => exact ⟨0, m + 1, A3, c3, Nat.zero_le _, rfl, rfl, by rw [HS0.out]; exact HM0.out, by rw [HS0.out]; exact HO3.out, HW3.out⟩
      case round =>
        clear HS0 HM0 HO3 HW3
        obtain ⟨k, m, A, c, hk, rfl, rfl, hm, ho, hw⟩ := hrel
        have hmk : m ≤ n + 1 := by rw [← hm]; exact HG.out k
        have HM := Lib.hid hm
        have HO := Lib.hid ho
        have HW := Lib.hid hw
        clear hm ho hw
        by_cases hlt : k < n
        · obtain ⟨ad, x, rfl, hB, hlx, hx1, hx2, hcx⟩ := H1.out.cells (k := k) (by rw [HL.out]; exact hlt)
          have HN := Lib.hid (filter_next (fun x => aheadD d x) hlx)
          clear hlx
          have HC : Hid (∀ V, Below wr.heap.size wr V → (V.cell? (ad.add (k * 2)) = some (.int .u16 (x.1 : Int)) ∧ V.cell? ⟨(ad.add (k * 2)).block, (ad.add (k * 2)).off + 1, none⟩ = some (.int .u64 (x.2 : Int))) ∧ V.cell? ⟨w.heap.size, 0, none⟩ = some (.int .u16 (d.1 : Int)) ∧ V.cell? ⟨w.heap.size, 1, none⟩ = some (.int .u64 (d.2 : Int))) := fun V hV =>
            ⟨hcx V (HW.out.trans (hV.mono HW.out.size)), HD.out V (HW.out.trans (hV.mono HW.out.size))⟩
          clear hcx
          obtain ⟨⟨d1, d2⟩, d3, d4⟩ := HC.out wr (Below.refl _ _)
          go_wp2_with fail
          go_region_held3 (fun V => (V.cell? (ad.add (k * 2)) = some (.int .u16 (x.1 : Int)) ∧ V.cell? ⟨(ad.add (k * 2)).block, (ad.add (k * 2)).off + 1, none⟩ = some (.int .u64 (x.2 : Int))) ∧ V.cell? ⟨w.heap.size, 0, none⟩ = some (.int .u16 (d.1 : Int)) ∧ V.cell? ⟨w.heap.size, 1, none⟩ = some (.int .u64 (d.2 : Int))) (first | exact ⟨⟨d1, d2⟩, d3, d4⟩ | assumption | exact HC.out _ (by (repeat (first | exact Below.refl _ _ | assumption | apply bel_drew)))) (first
            | (go_at_call 43; (with_reducible refine (rcmp_later wr _ x d ?_).mono ?_); (repeat (first | exact Below.refl _ _ | assumption | apply bel_drew)); rintro e V ⟨rfl, bv⟩; have hcV := HC.out V bv))
          all_goals
            have HV : Hid (Below w1.heap.size w1 V) := HW.out.trans (bv.mono HW.out.size)
            have HOV := Lib.hid (own_kept HO.out bv)
            obtain ⟨⟨v1, v2⟩, _⟩ := hcV
            clear bv d1 d2 d3 d4
            rw [cmp_pos]
            cases ha : aheadD d x with
            | true =>
              rw [ha] at HN
              have HLO : Hid (m + 1 ≤ 8796093022208) := Lib.hid (by omega)
              have HWA : Hid (Below w1.heap.size w1 (V.alloc (.cells #[.int .u16 (x.1 : Int), .int .u64 (x.2 : Int)] 28))) := bel_alloc _ HV.out
              have HS : Hid (g (k + 1) = g k ++ [x]) := Lib.hid (by rw [HGE.out, HGE.out, List.append_assoc _ _ [x]]; exact congrArg _ (HN.out.trans (by rw [if_pos rfl])))
              clear ha
              go_wp2_with (at_builtin; refine wpList_any rfl (.tmp 45) (.tmp 50) rfl rfl _ w1.heap.size m (.slice A m c) (g k) (some ⟨V.heap.size, 0, none⟩) [x] 1 1 rfl rfl (HOV.out.alloc _) (fun h => by cases h) (lies_one V x) rfl HLO.out HWA.out.size ?_; intro A3 c3 V3 ho3 hg3; have HR := Lib.hid (p_rel hlt HS.out (by rw [List.length_append, HM.out]; rfl) ho3 (any_grown (HOV.out.alloc _) HWA.out hg3)); clear ho3 hg3)
              go_roundw
              case rel => exact HR.out
              case measure => simp [intOf]; omega
            | false =>
              rw [ha] at HN
              have HS : Hid (g (k + 1) = g k) := Lib.hid (by rw [HGE.out, HGE.out]; exact congrArg _ (HN.out.trans (by rw [if_neg (by simp), List.append_nil])))
              have HR := Lib.hid (p_rel hlt HS.out HM.out HOV.out HV.out)
              clear ha v1 v2
              go_wp2
              go_roundw
              case rel => exact HR.out
              case measure => simp [intOf]; omega
        · obtain rfl : n = k := by omega
          have HE2 : Hid (g n = putD l d) := Lib.hid (by rw [HGE.out, List.take_of_length_le (by rw [HL.out]; exact Nat.le_refl _)]; rfl)
          have HWE : Hid (Below w.heap.size w wr) := HB1.out.trans (HW.out.mono HB1.out.size)
          rw [HE2.out] at HM HO
          go_wp2
          go_ret
          exact ⟨A, m, c, rfl, HM.out, own_less HO.out HB1.out.size, HWE.out⟩
end Go.Proofs.YtmebokpgiehgmaaGreat.Dt

/- The contracts of the document's Sort and Dots of layer event. For every list of at most 2^40 events (Sort); of at most 30 events with at most 300 kills each (Dots: more would do). -/
namespace Go.Proofs.YtmebokpgiehgmaaGreat.Ev
open Go.ChangeShapes Go.WideShapes Go.ChangeAt Go.RowKit
set_option linter.unusedVariables false
set_option maxRecDepth 4000

noncomputable def sortE (l : List Evt) : List Evt := l.foldl putE []
theorem take_one {α : Type} {l : List α} {k : Nat} {x : α} (h : l[k]? = some x) : l.take (k + 1) = l.take k ++ [x] := by rw [List.take_add_one, h]; rfl
theorem sort_next {l : List Evt} {k : Nat} {x : Evt} (h : l[k]? = some x) : sortE (l.take (k + 1)) = putE (sortE (l.take k)) x := by
  unfold sortE
  rw [take_one h, List.foldl_append]; rfl
theorem put_long (l : List Evt) (e : Evt) : (putE l e).length ≤ l.length + 1 := by
  unfold putE
  have h := st_long l e l.length
  split
  · omega
  · split
    · rename_i h1
      rw [if_pos h1] at h
      exact h
    · rename_i h1
      rw [if_neg h1] at h
      rw [List.length_append]
      simp only [List.length_cons, List.length_nil]
      omega
theorem sort_long (l : List Evt) (k : Nat) : (sortE (l.take k)).length ≤ k := by
  induction k with
  | zero => exact Nat.le_refl _
  | succ k ih =>
    rcases Nat.lt_or_ge k l.length with h | h
    · rw [sort_next (List.getElem?_eq_getElem h)]
      have := put_long (sortE (l.take k)) l[k]
      omega
    · rw [List.take_of_length_le (by omega), ← List.take_of_length_le h]
      omega

/-- the dots of an event and all its kills, put. -/
def dotsOne (m : List Dt.Dot) (x : Evt) : List Dt.Dot := x.kills.foldl Dt.putD (Dt.putD m x.dot)
/-- the dots of events, and all their kills. -/
def dotsE (l : List Evt) : List Dt.Dot := l.foldl dotsOne []
def dotsTo (l : List Evt) (k : Nat) : List Dt.Dot := (l.take k).foldl dotsOne []
def killsTo (m : List Dt.Dot) (x : Evt) (j : Nat) : List Dt.Dot := (x.kills.take j).foldl Dt.putD (Dt.putD m x.dot)
theorem dots_next {l : List Evt} {k : Nat} {x : Evt} (h : l[k]? = some x) : dotsTo l (k + 1) = dotsOne (dotsTo l k) x := by
  unfold dotsTo
  rw [take_one h, List.foldl_append]; rfl
theorem kills_next {m : List Dt.Dot} {x : Evt} {j : Nat} {d : Dt.Dot} (h : x.kills[j]? = some d) : killsTo m x (j + 1) = Dt.putD (killsTo m x j) d := by
  unfold killsTo
  rw [take_one h, List.foldl_append]; rfl
theorem kills_all {m : List Dt.Dot} {x : Evt} {n : Nat} (hn : x.kills.length = n) : killsTo m x n = dotsOne m x := by
  unfold killsTo dotsOne
  rw [List.take_of_length_le (by rw [hn]; exact Nat.le_refl _)]
end Go.Proofs.YtmebokpgiehgmaaGreat.Ev

/- The document's order of events: each list that Sort answers rises, is its own order, and has of each dot the first event alone. Plain: no program is walked. -/
namespace Go.Proofs.YtmebokpgiehgmaaGreat.Ev
open Go.ChangeShapes Go.WideShapes Go.ChangeAt Go.RowKit
set_option linter.unusedVariables false
set_option maxRecDepth 4000

theorem ahead_iff (a b : Dt.Dot) : Dt.aheadD a b = true ↔ a.1 < b.1 ∨ (a.1 = b.1 ∧ a.2 < b.2) := decide_eq_true_iff
theorem ahead_trans {a b c : Dt.Dot} (h1 : Dt.aheadD a b = true) (h2 : Dt.aheadD b c = true) : Dt.aheadD a c = true := by
  rw [ahead_iff] at *
  omega
theorem ahead_total {a b : Dt.Dot} (h : ¬ Dt.aheadD a b = true) (hn : b ≠ a) : Dt.aheadD b a = true := by
  rw [ahead_iff] at *
  have h3 : ¬ (b.1 = a.1 ∧ b.2 = a.2) := fun h => hn (Prod.ext h.1 h.2)
  omega
theorem ahead_not {a b : Dt.Dot} (h : Dt.aheadD a b = true) : ¬ Dt.aheadD b a = true := by
  rw [ahead_iff] at *
  omega
theorem ahead_ne {a b : Dt.Dot} (h : Dt.aheadD a b = true) : a ≠ b := by
  rw [ahead_iff] at h
  intro e
  subst e
  omega
theorem take_all {α : Type} (f : α → Bool) (l : List α) (h : ∀ x ∈ l, f x = true) : l.takeWhile f = l := by
  induction l with
  | nil => rfl
  | cons x l ih => rw [List.takeWhile_cons, h x (List.mem_cons_self ..), if_pos rfl, ih (fun y hy => h y (List.mem_cons_of_mem _ hy))]
theorem drop_all {α : Type} (f : α → Bool) (l : List α) (h : ∀ x ∈ l, f x = true) : l.dropWhile f = [] := by
  induction l with
  | nil => rfl
  | cons x l ih => rw [List.dropWhile_cons, h x (List.mem_cons_self ..), if_pos rfl, ih (fun y hy => h y (List.mem_cons_of_mem _ hy))]
/-- does the new event stand ahead of one? -/
def aft (e : Evt) (x : Evt) : Bool := Dt.aheadD e.dot x.dot
def nft (e : Evt) (x : Evt) : Bool := !aft e x
theorem step_true (e x : Evt) (acc : List Evt) : stepE e (true, acc) x = (true, acc ++ [x]) := by
  unfold stepE
  rw [if_neg (fun h => by cases h.2)]
theorem fold_true (e : Evt) (m acc : List Evt) : m.foldl (stepE e) (true, acc) = (true, acc ++ m) := by
  induction m generalizing acc with
  | nil => simp
  | cons x m ih => rw [List.foldl_cons, step_true, ih, List.append_assoc]; rfl
theorem fold_false (e : Evt) (m acc : List Evt) : m.foldl (stepE e) (false, acc) = if m.any (aft e) = true then (true, acc ++ (m.takeWhile (nft e) ++ e :: m.dropWhile (nft e))) else (false, acc ++ m) := by
  induction m generalizing acc with
  | nil => simp
  | cons x m ih =>
    rw [List.foldl_cons]
    cases hx : aft e x with
    | true =>
      have h1 : stepE e (false, acc) x = (true, acc ++ [e, x]) := by unfold stepE; rw [if_pos ⟨hx, rfl⟩]
      have h2 : nft e x = false := by unfold nft; rw [hx]; rfl
      rw [h1, fold_true, if_pos (by simp [hx])]
      simp [h2]
    | false =>
      have h1 : stepE e (false, acc) x = (false, acc ++ [x]) := by unfold stepE; rw [if_neg (fun h => by have := h.1; unfold aft at hx; rw [hx] at this; cases this)]
      have h2 : nft e x = true := by unfold nft; rw [hx]; rfl
      rw [h1, ih]
      by_cases hm : m.any (aft e) = true
      · rw [if_pos hm, if_pos (by simp [hm, hx])]
        simp [h2]
      · rw [if_neg hm, if_neg (by simp only [List.any_cons, hx, Bool.false_or]; exact hm)]
        simp
/-- an event more, where none has its dot. -/
theorem put_new {l : List Evt} {e : Evt} (h : ∀ x ∈ l, x.dot ≠ e.dot) : putE l e = l.takeWhile (nft e) ++ e :: l.dropWhile (nft e) := by
  have h1 : stE l e l.length = if l.any (aft e) = true then (true, [] ++ (l.takeWhile (nft e) ++ e :: l.dropWhile (nft e))) else (false, [] ++ l) := by
    unfold stE
    rw [List.take_of_length_le (Nat.le_refl _), fold_false]
  unfold putE
  rw [if_neg (fun ⟨x, hx, hd⟩ => h x hx hd), h1]
  by_cases ha : l.any (aft e) = true
  · rw [if_pos ha, if_pos rfl]; rfl
  · rw [if_neg ha, if_neg (by simp)]
    have h2 : ∀ x ∈ l, nft e x = true := fun x hx => by
      unfold nft
      cases hf : aft e x with
      | false => rfl
      | true => exact absurd (List.any_eq_true.2 ⟨x, hx, hf⟩) ha
    have h3 := take_all (nft e) l h2
    have h4 := drop_all (nft e) l h2
    rw [h3, h4]; rfl
/-- events that rise. -/
def OrdE (l : List Evt) : Prop := l.Pairwise fun a b => Dt.aheadD a.dot b.dot = true
theorem put_ord {l : List Evt} (e : Evt) (h : OrdE l) : OrdE (putE l e) := by
  by_cases hd : ∃ x ∈ l, x.dot = e.dot
  · unfold putE
    rw [if_pos hd]
    exact h
  · have hn : ∀ x ∈ l, x.dot ≠ e.dot := fun x hx hxd => hd ⟨x, hx, hxd⟩
    rw [put_new hn]
    have hl := List.takeWhile_append_dropWhile (p := nft e) (l := l)
    have h2 : OrdE (l.takeWhile (nft e) ++ l.dropWhile (nft e)) := by rw [hl]; exact h
    unfold OrdE at h2 ⊢
    rw [List.pairwise_append] at h2 ⊢
    obtain ⟨p1, p2, p3⟩ := h2
    have hb : ∀ b ∈ l.dropWhile (nft e), Dt.aheadD e.dot b.dot = true := by
      intro b hb
      cases hdw : l.dropWhile (nft e) with
      | nil => rw [hdw] at hb; cases hb
      | cons b0 r =>
        have h0 : nft e b0 = false := by
          have := List.head_dropWhile_not (nft e) (l := l) (by rw [hdw]; simp)
          simpa [hdw] using this
        have h1 : Dt.aheadD e.dot b0.dot = true := by unfold nft aft at h0; simpa using h0
        rw [hdw] at hb p2
        rcases List.mem_cons.1 hb with rfl | hb
        · exact h1
        · exact ahead_trans h1 ((List.pairwise_cons.1 p2).1 b hb)
    have ha : ∀ a ∈ l.takeWhile (nft e), Dt.aheadD a.dot e.dot = true := by
      intro a ha
      have h0 : nft e a = true := (List.all_eq_true.1 List.all_takeWhile) a ha
      have h1 : ¬ Dt.aheadD e.dot a.dot = true := by unfold nft aft at h0; simpa using h0
      exact ahead_total h1 (hn a ((List.takeWhile_sublist _).mem ha))
    refine ⟨p1, List.pairwise_cons.2 ⟨hb, p2⟩, fun a ha2 b hb2 => ?_⟩
    rcases List.mem_cons.1 hb2 with rfl | hb2
    · exact ha a ha2
    · exact p3 a ha2 b hb2
theorem sort_ord (l : List Evt) : OrdE (sortE l) := by
  have h : ∀ (m acc : List Evt), OrdE acc → OrdE (m.foldl putE acc) := by
    intro m
    induction m with
    | nil => intro acc h; exact h
    | cons x m ih => intro acc h; exact ih _ (put_ord x h)
  exact h l [] List.Pairwise.nil
theorem put_last {l : List Evt} {e : Evt} (h : ∀ x ∈ l, Dt.aheadD x.dot e.dot = true) : putE l e = l ++ [e] := by
  rw [put_new (fun x hx => ahead_ne (h x hx))]
  have h2 : ∀ x ∈ l, nft e x = true := fun x hx => by
    unfold nft aft
    cases hf : Dt.aheadD e.dot x.dot with
    | false => rfl
    | true => exact absurd hf (ahead_not (h x hx))
  rw [take_all (nft e) l h2, drop_all (nft e) l h2]
/-- what rises is its own order. -/
theorem sort_same {l : List Evt} (h : OrdE l) : sortE l = l := by
  have hk : ∀ k, k ≤ l.length → sortE (l.take k) = l.take k := by
    intro k
    induction k with
    | zero => intro _; rfl
    | succ k ih =>
      intro hk
      have hx := List.getElem?_eq_getElem (show k < l.length by omega)
      rw [sort_next hx, ih (by omega), take_one hx]
      refine put_last (fun x hx2 => ?_)
      obtain ⟨j, hj, rfl⟩ := List.getElem_of_mem hx2
      rw [List.getElem_take]
      rw [List.length_take] at hj
      exact List.pairwise_iff_getElem.1 h j k (by omega) (by omega) (by omega)
  have := hk l.length (Nat.le_refl _)
  rwa [List.take_of_length_le (Nat.le_refl _)] at this
theorem sort_twice (l : List Evt) : sortE (sortE l) = sortE l := sort_same (sort_ord l)
/-- neighbours in the order. -/
theorem sort_cmp {l : List Evt} {k : Nat} {a b : Evt} (ha : (sortE l)[k]? = some a) (hb : (sortE l)[k + 1]? = some b) : Dt.aheadD a.dot b.dot = true := by
  obtain ⟨h1, rfl⟩ := List.getElem?_eq_some_iff.1 ha
  obtain ⟨h2, rfl⟩ := List.getElem?_eq_some_iff.1 hb
  exact List.pairwise_iff_getElem.1 (sort_ord l) k (k + 1) h1 h2 (Nat.lt_succ_self _)
theorem put_mem {l : List Evt} {e : Evt} (x : Evt) : x ∈ putE l e ↔ x ∈ l ∨ ((∀ y ∈ l, y.dot ≠ e.dot) ∧ x = e) := by
  by_cases hd : ∃ y ∈ l, y.dot = e.dot
  · obtain ⟨y, hy, hye⟩ := hd
    have h1 : putE l e = l := by unfold putE; rw [if_pos ⟨y, hy, hye⟩]
    rw [h1]
    exact ⟨.inl, fun h => h.resolve_right (fun h2 => h2.1 y hy hye)⟩
  · have hn : ∀ y ∈ l, y.dot ≠ e.dot := fun y hy h => hd ⟨y, hy, h⟩
    rw [put_new hn, List.mem_append, List.mem_cons]
    have hl := List.takeWhile_append_dropWhile (p := nft e) (l := l)
    constructor
    · rintro (h | h | h)
      · exact .inl (by rw [← hl]; exact List.mem_append_left _ h)
      · exact .inr ⟨hn, h⟩
      · exact .inl (by rw [← hl]; exact List.mem_append_right _ h)
    · rintro (h | ⟨_, h⟩)
      · rw [← hl, List.mem_append] at h
        rcases h with h | h
        · exact .inl h
        · exact .inr (.inr h)
      · exact .inr (.inl h)
/-- each dot that was met is there. -/
theorem dot_there (l : List Evt) (k : Nat) : ∀ (i : Nat) (y : Evt), i < k → l[i]? = some y → ∃ z ∈ sortE (l.take k), z.dot = y.dot := by
  induction k with
  | zero => intro i y hi; omega
  | succ k ih =>
    intro i y hi hy
    rcases Nat.lt_or_ge k l.length with hk | hk
    · have hx := List.getElem?_eq_getElem hk
      rw [sort_next hx]
      rcases Nat.lt_succ_iff_lt_or_eq.1 hi with h | rfl
      · obtain ⟨z, hz, hd⟩ := ih i y h hy
        exact ⟨z, (put_mem z).2 (.inl hz), hd⟩
      · rw [hx] at hy
        cases hy
        by_cases hd : ∃ z ∈ sortE (l.take i), z.dot = l[i].dot
        · obtain ⟨z, hz, hzd⟩ := hd
          exact ⟨z, (put_mem z).2 (.inl hz), hzd⟩
        · exact ⟨l[i], (put_mem _).2 (.inr ⟨fun z hz h => hd ⟨z, hz, h⟩, rfl⟩), rfl⟩
    · have h1 : i < k := by have := (List.getElem?_eq_some_iff.1 hy).1; omega
      have e : l.take (k + 1) = l.take k := by rw [List.take_of_length_le (by omega), List.take_of_length_le hk]
      rw [e]
      exact ih i y h1 hy
/-- the first one with its dot. -/
def FirstE (l : List Evt) (x : Evt) : Prop := ∃ j : Nat, l[j]? = some x ∧ ∀ (i : Nat) (y : Evt), i < j → l[i]? = some y → y.dot ≠ x.dot
theorem sort_first (l : List Evt) (k : Nat) (x : Evt) : x ∈ sortE (l.take k) ↔ ∃ j : Nat, j < k ∧ l[j]? = some x ∧ ∀ (i : Nat) (y : Evt), i < j → l[i]? = some y → y.dot ≠ x.dot := by
  induction k with
  | zero => exact ⟨fun h => (by cases h), fun ⟨j, hj, _⟩ => by omega⟩
  | succ k ih =>
    rcases Nat.lt_or_ge k l.length with hk | hk
    · have hx := List.getElem?_eq_getElem hk
      rw [sort_next hx, put_mem, ih]
      constructor
      · rintro (⟨j, hj, h1, h2⟩ | ⟨h1, rfl⟩)
        · exact ⟨j, by omega, h1, h2⟩
        · refine ⟨k, Nat.lt_succ_self k, hx, fun i y hi hy hd => ?_⟩
          obtain ⟨z, hz, hzd⟩ := dot_there l k i y hi hy
          exact h1 z hz (hzd.trans hd)
      · rintro ⟨j, hj, h1, h2⟩
        rcases Nat.lt_succ_iff_lt_or_eq.1 hj with h | rfl
        · exact .inl ⟨j, h, h1, h2⟩
        · rw [hx] at h1
          cases h1
          refine .inr ⟨fun y hy hd => ?_, rfl⟩
          have hy2 : ∃ i : Nat, i < j ∧ l[i]? = some y := by
            have hm : ∀ (m : Nat) (y : Evt), y ∈ sortE (l.take m) → ∃ i : Nat, i < m ∧ l[i]? = some y := by
              intro m
              induction m with
              | zero => intro y h; cases h
              | succ m ihm =>
                intro y h
                rcases Nat.lt_or_ge m l.length with hm | hm
                · rw [sort_next (List.getElem?_eq_getElem hm), put_mem] at h
                  rcases h with h | ⟨_, rfl⟩
                  · obtain ⟨i, hi, h3⟩ := ihm y h
                    exact ⟨i, by omega, h3⟩
                  · exact ⟨m, Nat.lt_succ_self m, List.getElem?_eq_getElem hm⟩
                · have e : l.take (m + 1) = l.take m := by rw [List.take_of_length_le (by omega), List.take_of_length_le hm]
                  rw [e] at h
                  obtain ⟨i, hi, h3⟩ := ihm y h
                  exact ⟨i, by omega, h3⟩
            exact hm j y hy
          obtain ⟨i, hi, h3⟩ := hy2
          exact h2 i y hi h3 hd
    · have e : l.take (k + 1) = l.take k := by rw [List.take_of_length_le (by omega), List.take_of_length_le hk]
      rw [e, ih]
      exact ⟨fun ⟨j, hj, h⟩ => ⟨j, by omega, h⟩, fun ⟨j, hj, h1, h2⟩ => ⟨j, by have := (List.getElem?_eq_some_iff.1 h1).1; omega, h1, h2⟩⟩
theorem sort_mem (l : List Evt) (x : Evt) : x ∈ sortE l ↔ FirstE l x := by
  have h := sort_first l l.length x
  rw [List.take_of_length_le (Nat.le_refl _)] at h
  rw [h]
  exact ⟨fun ⟨j, _, h1, h2⟩ => ⟨j, h1, h2⟩, fun ⟨j, h1, h2⟩ => ⟨j, (List.getElem?_eq_some_iff.1 h1).1, h1, h2⟩⟩
/-- two lists that rise and have the same events are the same. -/
theorem ord_uniq {l m : List Evt} (hl : OrdE l) (hm : OrdE m) (h : ∀ x, x ∈ l ↔ x ∈ m) : l = m := by
  induction l generalizing m with
  | nil =>
    cases m with
    | nil => rfl
    | cons y m => exact absurd ((h y).2 (List.mem_cons_self ..)) (by simp)
  | cons x l ih =>
    cases m with
    | nil => exact absurd ((h x).1 (List.mem_cons_self ..)) (by simp)
    | cons y m =>
      obtain ⟨a1, a2⟩ := List.pairwise_cons.1 hl
      obtain ⟨b1, b2⟩ := List.pairwise_cons.1 hm
      have hxy : x = y := by
        rcases List.mem_cons.1 ((h x).1 (List.mem_cons_self ..)) with e | e
        · exact e
        · rcases List.mem_cons.1 ((h y).2 (List.mem_cons_self ..)) with e2 | e2
          · exact e2.symm
          · exact absurd (b1 x e) (ahead_not (a1 y e2))
      subst hxy
      rw [ih a2 b2 (fun z => ?_)]
      constructor
      · intro hz
        rcases List.mem_cons.1 ((h z).1 (List.mem_cons_of_mem _ hz)) with e | e
        · subst e
          exact absurd rfl (ahead_ne (a1 z hz))
        · exact e
      · intro hz
        rcases List.mem_cons.1 ((h z).2 (List.mem_cons_of_mem _ hz)) with e | e
        · subst e
          exact absurd rfl (ahead_ne (b1 z hz))
        · exact e
theorem sort_uniq {l m : List Evt} (hm : OrdE m) (h : ∀ x, x ∈ m ↔ FirstE l x) : m = sortE l := ord_uniq hm (sort_ord l) (fun x => by rw [h, sort_mem])
end Go.Proofs.YtmebokpgiehgmaaGreat.Ev
