/- Words and contracts that the proofs of this seat stand on, part 2 of 18. -/
import Derived.Test.YtmebokpgiehgmaaMgA
import Derived.Deep.DeepCutAuto

/- The contracts of the document's Same, All and Few of layer event. For every event and list of events. -/
namespace Go.Proofs.Ytmebokpgiehgmaa.Ev
open Go.ChangeShapes Go.WideShapes Go.ChangeAt Go.RowKit
set_option linter.unusedVariables false
set_option maxRecDepth 4000

set_option maxHeartbeats 8000000 in
theorem rsame_any (w : World) (p q : EV) (x y : Evt) (h1 : EventIs w w.heap.size p x) (h2 : EventIs w w.heap.size q y) :
    Calls Try.prog 29 #[p.val, q.val] w fun e w' => e = .returned (.bool (decide (x = y))) ∧ Below w.heap.size w w' := by
  have hx := h1.eq
  have hy := h2.eq
  have HB := Lib.hid (below_new2 w p.box q.box)
  have CE := fun (_ : Unit) => Dt.rsame_any ((w.alloc p.box).alloc q.box) w.heap.size w.heap.size p.adr q.adr x.kills y.kills p.len q.len p.cap q.cap h1.kills.len h2.kills.len (h1.kills.dots.below HB.out) (h2.kills.dots.below HB.out) (Nat.le_trans h1.kills.wide (by decide))
  generalize x.kills = xl at hx CE
  generalize y.kills = yl at hy CE
  subst hx hy
  clear h1 h2
  obtain ⟨p1, p2, p3, p4, p5, p6, pA, pn, pc⟩ := p
  obtain ⟨q1, q2, q3, q4, q5, q6, qA, qn, qc⟩ := q
  have hb1 := box_first w ⟨p1, p2, p3, p4, p5, p6, pA, pn, pc⟩ (EV.box ⟨q1, q2, q3, q4, q5, q6, qA, qn, qc⟩)
  have hb2 := box_last w (EV.box ⟨p1, p2, p3, p4, p5, p6, pA, pn, pc⟩) ⟨q1, q2, q3, q4, q5, q6, qA, qn, qc⟩
  obtain ⟨a0, a1, a2, a3, a4, a5, a6⟩ := hb1
  obtain ⟨b0, b1, b2, b3, b4, b5, b6⟩ := hb2
  simp only [EV.val]
  simp only [EV.box, Nat.zero_add] at HB CE a0 a1 a2 a3 a4 a5 a6 b0 b1 b2 b3 b4 b5 b6
  have hs := eq_texts p6 q6
  by_cases e1 : p1 = q1
  · subst e1
    by_cases e2 : p2 = q2
    · subst e2
      by_cases e3 : p3 = q3
      · subst e3
        by_cases e4 : p4 = q4
        · subst e4
          by_cases e5 : p5 = q5
          · subst e5
            by_cases e6 : p6 = q6
            · subst e6
              have hd : Hid (decide ((⟨(p1, p2), p3, p4, p5, p6, xl⟩ : Evt) = ⟨(p1, p2), p3, p4, p5, p6, yl⟩) = decide (xl = yl)) := Lib.hid (by rw [Bool.eq_iff_iff]; simp)
              rw [hd.out]
              rw [decide_eq_true rfl] at hs
              clear hd
              generalize decide (xl = yl) = ans at CE ⊢
              go_enter Try.func29, Try.ntmps29
              go_wp2_with fail
              refine (CE ()).mono ?_
              rintro e w' ⟨rfl, m, rfl⟩
              go_wp2
              go_ret
              exact ⟨rfl, bel_drewN HB.out _⟩
            · have hd : Hid (decide ((⟨(p1, p2), p3, p4, p5, p6, xl⟩ : Evt) = ⟨(p1, p2), p3, p4, p5, q6, yl⟩) = false) := Lib.hid (decide_eq_false (fun e => e6 (by injection e)))
              rw [hd.out]
              rw [decide_eq_false e6] at hs
              clear hd e6 CE
              go_enter Try.func29, Try.ntmps29
              go_wp2
              go_ret
              exact ⟨rfl, HB.out⟩
          · have hd : Hid (decide ((⟨(p1, p2), p3, p4, p5, p6, xl⟩ : Evt) = ⟨(p1, p2), p3, p4, q5, q6, yl⟩) = false) := Lib.hid (decide_eq_false (fun e => e5 (by injection e)))
            have hb := beq_nat e5
            rw [hd.out]
            clear hd e5 CE hs
            go_enter Try.func29, Try.ntmps29
            go_wp2
            go_ret
            exact ⟨rfl, HB.out⟩
        · have hd : Hid (decide ((⟨(p1, p2), p3, p4, p5, p6, xl⟩ : Evt) = ⟨(p1, p2), p3, q4, q5, q6, yl⟩) = false) := Lib.hid (decide_eq_false (fun e => e4 (by injection e)))
          have hb := beq_nat e4
          rw [hd.out]
          clear hd e4 CE hs
          go_enter Try.func29, Try.ntmps29
          go_wp2
          go_ret
          exact ⟨rfl, HB.out⟩
      · have hd : Hid (decide ((⟨(p1, p2), p3, p4, p5, p6, xl⟩ : Evt) = ⟨(p1, p2), q3, q4, q5, q6, yl⟩) = false) := Lib.hid (decide_eq_false (fun e => e3 (by injection e)))
        have hb := beq_nat e3
        rw [hd.out]
        clear hd e3 CE hs
        go_enter Try.func29, Try.ntmps29
        go_wp2
        go_ret
        exact ⟨rfl, HB.out⟩
    · have hd : Hid (decide ((⟨(p1, p2), p3, p4, p5, p6, xl⟩ : Evt) = ⟨(p1, q2), q3, q4, q5, q6, yl⟩) = false) := Lib.hid (decide_eq_false (fun e => e2 (by injection e with e _; injection e)))
      have hb := beq_nat e2
      rw [hd.out]
      clear hd e2 CE hs
      go_enter Try.func29, Try.ntmps29
      go_wp2
      go_ret
      exact ⟨rfl, HB.out⟩
  · have hd : Hid (decide ((⟨(p1, p2), p3, p4, p5, p6, xl⟩ : Evt) = ⟨(q1, q2), q3, q4, q5, q6, yl⟩) = false) := Lib.hid (decide_eq_false (fun e => e1 (by injection e with e _; injection e)))
    have hb := beq_nat e1
    rw [hd.out]
    clear hd e1 CE hs
    go_enter Try.func29, Try.ntmps29
    go_wp2
    go_ret
    exact ⟨rfl, HB.out⟩

set_option maxHeartbeats 8000000 in
theorem rall_any (w : World) (A1 A2 : Option Addr) (l1 l2 : List Evt) (n1 n2 c1 c2 : Nat) (h1 : EventsAt w w.heap.size A1 l1 n1 c1) (h2 : EventsAt w w.heap.size A2 l2 n2 c2) :
    Calls Try.prog 15 #[.slice A1 n1 c1, .slice A2 n2 c2] w fun e w' => e = .returned (.bool (decide (l1 = l2))) ∧ Below w.heap.size w w' := by
  have H1 := Lib.hid h1
  have H2 := Lib.hid h2
  have h63 : n1 ≤ 2199023255552 := h1.wide
  clear h1 h2
  by_cases hn : n1 = n2
  · subst hn
    go_enter Try.func15, Try.ntmps15
    go_wp2
    go_loopw [5] (fun i wr => ∃ k : Nat, k ≤ n1 ∧ i = .int .i64 (k : Int) ∧ l1.take k = l2.take k ∧ Below w.heap.size w wr) (fun i _ => n1 - (intOf i).toNat)
    case atStart => exact ⟨0, Nat.zero_le _, rfl, by simp, Below.refl _ _⟩
    case round =>
      obtain ⟨k, hk, rfl, ht, hw⟩ := hrel
      have HT := Lib.hid ht
      have HW := Lib.hid hw
      have HA1 : Hid (EventsAt wr wr.heap.size A1 l1 n1 c1) := Lib.hid (H1.out.up hw)
      have HA2 : Hid (EventsAt wr wr.heap.size A2 l2 n1 c2) := Lib.hid (H2.out.up hw)
      clear ht hw
      by_cases hlt : k < n1
      · obtain ⟨a1, p, x, rfl, _, hlx, hp, cp⟩ := HA1.out.at_ hlt
        obtain ⟨a2, q, y, rfl, _, hly, hq, cq⟩ := HA2.out.at_ hlt
        have CT := rsame_any wr.drew p q x y (hp.up (Below.refl _ _).drew) (hq.up (Below.refl _ _).drew)
        simp only [EV.val] at CT
        obtain ⟨x0, x1, x2, x3, x4, x5, x6⟩ := cp
        obtain ⟨y0, y1, y2, y3, y4, y5, y6⟩ := cq
        clear hp hq
        by_cases hxy : x = y
        · have HS := Lib.hid (take_more HT.out hlx (by rw [hly, hxy]))
          rw [decide_eq_true hxy] at CT
          clear hlx hly hxy
          go_wp2_with fail
          go_still_tail 8, (by kernel_rfl)
          go_wp2_with fail
          refine CT.mono ?_
          rintro e w2 ⟨rfl, hb⟩
          have HW2 : Hid (Below w.heap.size w w2) := Lib.hid (HW.out.trans (((Below.refl _ wr).drew.trans hb).mono HW.out.size))
          clear hb
          go_wp2
          go_roundw
          case rel => exact ⟨k + 1, by omega, by go_num, HS.out, HW2.out⟩
          case measure => simp [intOf]; omega
        · have hd : Hid (decide (l1 = l2) = false) := decide_eq_false (ne_at hlx hly hxy)
          rw [decide_eq_false hxy] at CT
          clear hlx hly hxy
          go_wp2_with fail
          go_still_tail 8, (by kernel_rfl)
          go_wp2_with fail
          refine CT.mono ?_
          rintro e w2 ⟨rfl, hb⟩
          have HW2 : Hid (Below w.heap.size w w2) := Lib.hid (HW.out.trans (((Below.refl _ wr).drew.trans hb).mono HW.out.size))
          clear hb
          go_wp2
          go_ret
          exact ⟨ret_bool hd.out.symm, HW2.out⟩
      · obtain rfl : k = n1 := by omega
        have hd : Hid (l1 = l2) := by
          have h := HT.out
          rw [List.take_of_length_le (by rw [H1.out.len]; exact Nat.le_refl _), List.take_of_length_le (by rw [H2.out.len]; exact Nat.le_refl _)] at h
          exact h
        go_wp2
        go_ret
        exact ⟨ret_bool (by rw [decide_eq_true hd.out]), HW.out⟩
  · have hd : Hid (decide (l1 = l2) = false) := decide_eq_false (fun e => hn (by rw [← H1.out.len, ← H2.out.len, e]))
    have hne : ((n1 : Int) != (n2 : Int)) = true := by rw [bne_iff_ne]; omega
    go_enter Try.func15, Try.ntmps15
    go_wp2
    go_ret
    exact ⟨ret_bool hd.out.symm, Below.refl _ _⟩

/-- are there few events, with few kills? -/
def fewE (x : Evt) : Bool := decide (x.kills.length ≤ 300) && decide (x.txt.size ≤ 200)
def fewB (l : List Evt) (m : Nat) : Bool := decide (l.length ≤ m) && l.all fewE
def AllFew (l : List Evt) (k : Nat) : Prop := (l.take k).all fewE = true
theorem few_next {l : List Evt} {k : Nat} {x : Evt} (h : AllFew l k) (hx : l[k]? = some x) (hf : fewE x = true) : AllFew l (k + 1) := by
  unfold AllFew at *
  rw [List.take_add_one, hx, List.all_append, h]
  simp [hf]
theorem few_bad {l : List Evt} {k : Nat} {x : Evt} (m : Nat) (hx : l[k]? = some x) (hf : fewE x = false) : fewB l m = false := by
  unfold fewB
  rw [Bool.and_eq_false_iff]
  right
  rw [List.all_eq_false]
  exact ⟨x, List.mem_of_getElem? hx, by rw [hf]; simp⟩

set_option maxHeartbeats 8000000 in
theorem rfew_any (w : World) (A : Option Addr) (l : List Evt) (n c m : Nat) (hm : m ≤ 2147483647) (h : EventsAt w w.heap.size A l n c) :
    Calls Try.prog 6 #[.slice A n c, .int .i64 (m : Int)] w fun e w' => e = .returned (.bool (fewB l m)) ∧ w' = w := by
  have H := Lib.hid h
  have h63 : n ≤ 2199023255552 := h.wide
  clear h
  by_cases hn : n ≤ m
  · have hd1 : decide ((m : Int) < (n : Int)) = false := decide_eq_false (by omega)
    go_enter Try.func6, Try.ntmps6
    go_wp2
    go_loop [5] (fun i => ∃ k : Nat, k ≤ n ∧ i = .int .i64 (k : Int) ∧ AllFew l k) (fun i => n - (intOf i).toNat)
    case atStart => exact ⟨0, Nat.zero_le _, rfl, by simp [AllFew]⟩
    case round =>
      obtain ⟨k, hk, rfl, ht⟩ := hrel
      have HT := Lib.hid ht
      clear ht
      by_cases hlt : k < n
      · obtain ⟨ad, p, x, rfl, _, hlx, hp, cp⟩ := H.out.at_ hlt
        obtain ⟨x0, x1, x2, x3, x4, x5, x6⟩ := cp
        have hkl : x.kills.length = p.len := hp.kills.len
        have hkw : p.len ≤ 8796093022208 := hp.kills.wide
        have htx : p.txt = x.txt := hp.txt
        have hsh : p.txt.size ≤ 140737488355328 := by rw [htx]; exact hp.fits.txt
        have HE : Hid (fewE x = (decide (p.len ≤ 300) && decide (p.txt.size ≤ 200))) := Lib.hid (by unfold fewE; rw [hkl, htx])
        clear hp hkl htx
        by_cases h3 : p.len ≤ 300
        · by_cases h4 : p.txt.size ≤ 200
          · have HS := Lib.hid (few_next HT.out hlx (by rw [HE.out, decide_eq_true h3, decide_eq_true h4]; rfl))
            clear hlx HE
            go_wp2
            go_round
            case rel => exact ⟨k + 1, by omega, by go_num, HS.out⟩
            case measure => simp [intOf]; omega
          · have HS := Lib.hid (few_bad m hlx (by rw [HE.out, decide_eq_false h4]; simp))
            have h5 : 200 < p.txt.size := by omega
            clear hlx HE h4
            go_wp2
            go_ret
            exact ⟨ret_bool HS.out.symm, rfl⟩
        · have HS := Lib.hid (few_bad m hlx (by rw [HE.out, decide_eq_false h3]; rfl))
          have h5 : 300 < p.len := by omega
          clear hlx HE h3
          go_wp2
          go_ret
          exact ⟨ret_bool HS.out.symm, rfl⟩
      · obtain rfl : k = n := by omega
        have HS : Hid (fewB l m = true) := Lib.hid (by
          have h := HT.out
          unfold AllFew at h
          rw [List.take_of_length_le (by rw [H.out.len]; exact Nat.le_refl _)] at h
          unfold fewB
          rw [h, decide_eq_true (by rw [H.out.len]; exact hn)]; rfl)
        go_wp2
        go_ret
        exact ⟨ret_bool HS.out.symm, rfl⟩
  · have hd1 : decide ((m : Int) < (n : Int)) = true := decide_eq_true (by omega)
    have HS : Hid (fewB l m = false) := Lib.hid (by unfold fewB; rw [decide_eq_false (by rw [H.out.len]; exact hn)]; rfl)
    go_enter Try.func6, Try.ntmps6
    go_wp2
    go_ret
    exact ⟨ret_bool HS.out.symm, rfl⟩
end Go.Proofs.Ytmebokpgiehgmaa.Ev

/- The contract of the document's Good of layer event. For every event. -/
namespace Go.Proofs.Ytmebokpgiehgmaa.Ev
open Go.ChangeShapes Go.WideShapes Go.ChangeAt Go.RowKit
set_option linter.unusedVariables false
set_option maxRecDepth 4000

theorem empty_text (s : ByteArray) : s.toList.isEmpty = decide (s = ⟨#[]⟩) := by
  rw [Bool.eq_iff_iff, decide_eq_true_iff, ByteArray.toList_eq, List.isEmpty_iff]
  constructor
  · intro h
    exact Fd.ba_of h
  · intro h
    rw [h]

/-- may an event's kind, field and text be? -/
def headB (k f : Nat) (t : ByteArray) : Bool := if k = 1 then Fd.goodB f && Fd.textB t.data.toList else if k = 2 then decide (f = 0) && decide (t = ⟨#[]⟩) else false
/-- may an event be? -/
def goodE (x : Evt) : Bool := (Dt.unpackD x.cid).2 && Dt.mayD x.dot && headB x.kind x.fld x.txt && x.kills.all Dt.mayD && decide (x.kills.length ≤ 256) && Dt.riseB x.kills && !decide (x.dot ∈ x.kills)
def AllMay (l : List Dt.Dot) (k : Nat) : Prop := (l.take k).all Dt.mayD = true
theorem all_none (l : List Dt.Dot) : AllMay l 0 := by simp [AllMay]
theorem all_next {l : List Dt.Dot} {k : Nat} {x : Dt.Dot} (h : AllMay l k) (hx : l[k]? = some x) (hf : Dt.mayD x = true) : AllMay l (k + 1) := by
  unfold AllMay at *
  rw [List.take_add_one, hx, List.all_append, h]
  simp [hf]
theorem all_bad {l : List Dt.Dot} {k : Nat} {x : Dt.Dot} (hx : l[k]? = some x) (hf : Dt.mayD x = false) : l.all Dt.mayD = false := by
  rw [List.all_eq_false]
  exact ⟨x, List.mem_of_getElem? hx, by rw [hf]; simp⟩
theorem all_done {l : List Dt.Dot} {n : Nat} (hn : l.length = n) (h : AllMay l n) : l.all Dt.mayD = true := by
  unfold AllMay at h
  rwa [List.take_of_length_le (by rw [hn]; exact Nat.le_refl _)] at h

end Go.Proofs.Ytmebokpgiehgmaa.Ev

/- Lists of dots of one's own: append of any dots to any list of one's own, nil too. Condition: at most 2^43 dots in all. -/
namespace Go.Proofs.Ytmebokpgiehgmaa.Dt
open Go.ChangeShapes Go.WideShapes Go.ChangeAt Go.RowKit
set_option linter.unusedVariables false

theorem own_less {w : World} {B B' n size : Nat} {e : TypeId} {v : Value} {xs : List Value} (h : w.ownsRow B' e size v n xs) (hB : B ≤ B') : w.ownsRow B e size v n xs := by
  refine ⟨h.1, ?_⟩
  rcases h.2 with hz | ⟨g, cap, cur, e, hg, hr⟩
  · exact .inl hz
  · exact .inr ⟨g, cap, cur, e, Nat.le_trans hB hg, hr⟩
theorem own_kept {w V : World} {B n size : Nat} {e : TypeId} {v : Value} {xs : List Value} (h : w.ownsRow B e size v n xs) (hb : Below w.heap.size w V) : V.ownsRow B e size v n xs := by
  refine ⟨h.1, ?_⟩
  rcases h.2 with hz | ⟨g, cap, cur, e, hg, hh, hr⟩
  · exact .inl hz
  · have hlt : g < w.heap.size := by
      rcases Nat.lt_or_ge g w.heap.size with h1 | h1
      · exact h1
      · rw [Array.getElem?_eq_none h1] at hh; cases hh
    exact .inr ⟨g, cap, cur, e, hg, (hb.block g hlt).trans hh, hr⟩
theorem own_len {w : World} {B n size : Nat} {e : TypeId} {A : Option Addr} {c : Nat} {xs : List Value} (h : w.ownsRow B e size (.slice A n c) n xs) : n ≤ c ∧ c ≤ 9223372036854775807 ∧ (A = none → n = 0 ∧ c = 0) := by
  rcases h.2 with ⟨h, hz⟩ | ⟨_, _, _, h, _, _, h1, h2, _⟩
  · cases h; exact ⟨by omega, by omega, fun _ => ⟨rfl, rfl⟩⟩
  · cases h; exact ⟨h1, h2, fun e => by cases e⟩
theorem own_form {w : World} {B n size : Nat} {e : TypeId} {v : Value} {xs : List Value} (h : w.ownsRow B e size v n xs) : ∃ A c, v = .slice A n c := by
  rcases h.2 with ⟨rfl, rfl⟩ | ⟨g, cap, _, rfl, _⟩
  · exact ⟨none, 0, rfl⟩
  · exact ⟨_, cap, rfl⟩
theorem lies_any {w : World} {B n c size : Nat} {e : TypeId} {A : Option Addr} {vs : List Value} (hs : 0 < size) (h : w.ownsRow B e size (.slice A n c) n vs) : Lies w w.heap.size A vs := by
  rcases Nat.eq_zero_or_pos n with h0 | h0
  · have h1 := h.1
    rw [h0, Nat.zero_mul] at h1
    rw [List.eq_nil_of_length_eq_zero h1]
    exact Lies.none_ _ _ _
  · obtain ⟨g, cap, e1, _⟩ := own_shape (w := w) h (.inl h0)
    cases e1
    exact lies_own h
theorem dots_own {w : World} {B n c : Nat} {A : Option Addr} {m : List Dot} (h : w.ownsRow B 26 2 (.slice A n c) n (dv m)) (hf : Fit m) : Dots w w.heap.size A m := ⟨hf, lies_any (by decide) h⟩
theorem dot_at (W : World) (r : Dot) : ∀ (j : Nat) (u : Value), (dv [r])[j]? = some u → (W.alloc (.cells #[.int .u16 (r.1 : Int), .int .u64 (r.2 : Int)] 26)).cell? ((⟨W.heap.size, 0, none⟩ : Addr).add j) = some u := by
  intro j u hu
  rw [zero_add, World.cell?_alloc_new]
  have e : dv [r] = [.int .u16 (r.1 : Int), .int .u64 (r.2 : Int)] := rfl
  rw [e] at hu
  simpa using hu
theorem run_any (w : World) (B k : Nat) (v : Value) (xs : List Dot) (A : Option Addr) (m : List Dot) (n c : Nat) (ho : w.ownsRow B 26 2 v k (dv xs)) (hA : A = none → n = 0 ∧ c = 0) (hb : Lies w w.heap.size A (dv m)) (hl : m.length = n)
    (hn : k + n ≤ 8796093022208) (hB : B ≤ w.heap.size) :
    ∃ A' c' w', (Builtin.append_ #[30, 30] 30 #[v, .slice A n c]).run Try.prog w = .ok (.slice A' (k + n) c') w' ∧
      w'.ownsRow B 26 2 (.slice A' (k + n) c') (k + n) (dv (xs ++ m)) ∧ w.grownBy w' v.ownBlock := by
  obtain ⟨i0, hi0, hz0, hz1, hz2⟩ := info_parts dot_info
  cases A with
  | none =>
    obtain ⟨rfl, rfl⟩ := hA rfl
    obtain rfl := List.eq_nil_of_length_eq_zero hl
    obtain ⟨A', c', rfl⟩ := own_form ho
    exact ⟨A', c', w, run_append_owned_none (P := Try.prog) (w := w) B 30 30 26 i0 2 Try.underlying30 hi0 _ k (dv xs) ho, by rw [List.append_nil]; exact ho, turn_refl _ _⟩
  | some ad =>
    have hc : ∀ j u, (dv m)[j]? = some u → w.cell? (ad.add j) = some u := by
      intro j u hu
      have hjl : j < (dv m).length := (List.getElem?_eq_some_iff.1 hu).1
      obtain ⟨ad', e, hadb, hc⟩ := hb (by omega)
      obtain rfl := Option.some.inj e
      exact hc j u hu
    obtain ⟨v', w', hr, h2, h3, hat, h5⟩ := run_append_own_at (P := Try.prog) w B 30 30 26 i0 (.agg #[.int .u16 0, .int .u64 0]) 2 16 Try.underlying30 hi0 hz0 hz1 hz2 rfl (by decide) v k (dv xs) ho ad n c (dv m) (by rw [dv_length, hl]) hc (dv_one m) (by simp only [maxLen]; omega) (by omega) hB
    obtain ⟨A', c', rfl⟩ := own_form h2
    exact ⟨A', c', w', hr, by rw [dv_append]; exact h2, h3⟩
theorem wpList_any {ops : Array Oper} {rest : List Oper} {o : Oper} {a : Act} {Q : Exit → Act → World → Prop} (hgd : o.guard = none) (s x : Operand) (ho : o.op = .call { callee := .builtin .append, args := #[s, x], argTypes := #[30, 30] }) (hty : o.type = 30)
    (w : World) (B k : Nat) (v : Value) (xs : List Dot) (A : Option Addr) (m : List Dot) (n c : Nat) (hs : a.eval s = v) (hx : a.eval x = .slice A n c) (hw : w.ownsRow B 26 2 v k (dv xs)) (hA : A = none → n = 0 ∧ c = 0) (hb : Lies w w.heap.size A (dv m)) (hl : m.length = n)
    (hn : k + n ≤ 8796093022208) (hB : B ≤ w.heap.size)
    (hK : ∀ A' c' w', w'.ownsRow B 26 2 (.slice A' (k + n) c') (k + n) (dv (xs ++ m)) → w.grownBy w' v.ownBlock → wpList Try.prog ops Q rest (a.put o.dst (.slice A' (k + n) c')) w') : wpList Try.prog ops Q (o :: rest) a w := by
  refine wpList_plain hgd fun K hQ => ?_
  obtain ⟨A', c', w', hr, h2, h3⟩ := run_any w B k v xs A m n c hw hA hb hl hn hB
  rw [← hty] at hr
  unfold Oper.wp execOp
  simp only [ho, resolve, invoke, builtin, Sem.run_bind, Sem.run_pure, Result.andThen_ok, List.map_toArray, List.map_cons, List.map_nil, hs, hx]
  rw [hty] at hr ⊢
  rw [hr]
  exact hQ _ _ (hK _ _ _ h2 h3)
/-- a list of one's own has grown: what lay, lies. -/
theorem any_grown {w wr w2 : World} {v : Value} {m : Nat} {xs : List Value} (ho : wr.ownsRow w.heap.size 26 2 v m xs) (hb : Below w.heap.size w wr) (hg : wr.grownBy w2 v.ownBlock) : Below w.heap.size w w2 :=
  hb.grown hg hb.size (fun k hk => (ho.lt k hk).1)
/-- a new block that is one dot. -/
theorem lies_one (V : World) (r : Dot) : Lies (V.alloc (.cells #[.int .u16 (r.1 : Int), .int .u64 (r.2 : Int)] 26)) (V.alloc (.cells #[.int .u16 (r.1 : Int), .int .u64 (r.2 : Int)] 26)).heap.size (some ⟨V.heap.size, 0, none⟩) (dv [r]) :=
  fun _ => ⟨_, rfl, by simp, dot_at V r⟩

/-- a list of dots comes out. -/
def DotPost (w : World) (m : List Dot) (e : Ending) (w' : World) : Prop := ∃ A n c, e = .returned (.slice A n c) ∧ m.length = n ∧ w'.ownsRow w.heap.size 26 2 (.slice A n c) n (dv m) ∧ Below w.heap.size w w'
theorem post_dots {w w' : World} {m : List Dot} {e : Ending} (h : DotPost w m e w') (hf : Fit m) : ∃ A n c, e = .returned (.slice A n c) ∧ m.length = n ∧ (A = none → n = 0 ∧ c = 0) ∧ n ≤ c ∧ c ≤ 9223372036854775807 ∧ Dots w' w'.heap.size A m ∧ w'.ownsRow w.heap.size 26 2 (.slice A n c) n (dv m) ∧ Below w.heap.size w w' := by
  obtain ⟨A, n, c, rfl, hn, ho, hb⟩ := h
  obtain ⟨h1, h2, h3⟩ := own_len ho
  exact ⟨A, n, c, rfl, hn, h3, h1, h2, dots_own ho hf, ho, hb⟩

/-- a dot more, in its place. -/
def putD (l : List Dot) (d : Dot) : List Dot := l.filter (fun x => aheadD x d) ++ [d] ++ l.filter (fun x => aheadD d x)
def sortD (l : List Dot) : List Dot := l.foldl putD []
theorem ahead_iff (a b : Dot) : aheadD a b = true ↔ a.1 < b.1 ∨ (a.1 = b.1 ∧ a.2 < b.2) := decide_eq_true_iff
theorem cmp_neg (x d : Dot) : decide (cmpD x d < 0) = aheadD x d := by
  cases h : aheadD x d with
  | true => exact decide_eq_true (by rw [cmp_less h]; omega)
  | false => exact decide_eq_false (by have := cmp_sign x d h; omega)
theorem cmp_pos (x d : Dot) : decide (0 < cmpD x d) = aheadD d x := by
  cases h : aheadD d x with
  | true => exact decide_eq_true (by rw [cmp_more h]; omega)
  | false =>
    apply decide_eq_false
    unfold cmpD
    split
    · omega
    · rename_i hne
      have h2 : aheadD x d = true := by
        rw [ahead_iff]
        have h3 : ¬ (d.1 < x.1 ∨ (d.1 = x.1 ∧ d.2 < x.2)) := fun h' => by rw [(ahead_iff d x).2 h'] at h; exact absurd h (by simp)
        have h4 : ¬ (x.1 = d.1 ∧ x.2 = d.2) := fun h' => hne (Prod.ext h'.1 h'.2)
        omega
      rw [if_pos h2]; omega
theorem filter_next (f : Dot → Bool) {l : List Dot} {k : Nat} {x : Dot} (h : l[k]? = some x) : (l.take (k + 1)).filter f = (l.take k).filter f ++ (if f x = true then [x] else []) := by
  rw [take_next h, List.filter_append]
  by_cases hf : f x = true
  · simp [hf]
  · simp [hf]
theorem fit_put {l : List Dot} {d : Dot} (h : Fit l) (hd : d.1 < 65536 ∧ d.2 < 18446744073709551616) : Fit (putD l d) := by
  intro r hr
  unfold putD at hr
  simp only [List.mem_append, List.mem_filter, List.mem_singleton] at hr
  rcases hr with (hr | rfl) | hr
  · exact h r hr.1
  · exact hd
  · exact h r hr.1
theorem put_length (l : List Dot) (d : Dot) : (putD l d).length ≤ l.length + 1 := by
  have h : ∀ m : List Dot, (m.filter (fun x => aheadD x d)).length + (m.filter (fun x => aheadD d x)).length ≤ m.length := by
    intro m
    induction m with
    | nil => simp
    | cons x m ih =>
      have hx : ¬ (aheadD x d = true ∧ aheadD d x = true) := by
        rintro ⟨h1, h2⟩
        rw [ahead_iff] at h1 h2
        omega
      by_cases h1 : aheadD x d = true
      · have h2 : ¬ aheadD d x = true := fun h => hx ⟨h1, h⟩
        simp [h1, h2]; omega
      · by_cases h2 : aheadD d x = true
        · simp [h1, h2]; omega
        · simp [h1, h2]; omega
  have := h l
  unfold putD
  simp only [List.length_append, List.length_singleton]
  omega
end Go.Proofs.Ytmebokpgiehgmaa.Dt

/- Lists of events of one's own (append), and what the document's Put of layer event comes to. Condition: at most 3 * 2^39 events in all. -/
namespace Go.Proofs.Ytmebokpgiehgmaa.Ev
open Go.ChangeShapes Go.WideShapes Go.ChangeAt Go.RowKit
set_option linter.unusedVariables false
set_option maxRecDepth 4000

theorem evt_info : (Try.prog.info? 38).map (fun i => (i.zero, i.size, i.bytes)) = some (some (.agg #[.int .u16 0, .int .u64 0, .int .u8 0, .int .u64 0, .int .u8 0, .string ⟨#[]⟩, .slice none 0 0]), 7, 80) := by kernel_rfl
/-- a new block that is one event. -/
theorem lies_evt (V : World) (q : EV) : Dt.Lies (V.alloc q.box) (V.alloc q.box).heap.size (some ⟨V.heap.size, 0, none⟩) (ev [q]) := fun _ => by
  refine ⟨_, rfl, by rw [alloc_size]; exact Nat.lt_succ_self _, fun j u hu => ?_⟩
  rw [Dt.zero_add, World.cell?_alloc_new]
  have e : ev [q] = q.cells := by simp [ev]
  rw [e] at hu
  simpa using hu
theorem run_evt (w : World) (B k : Nat) (v : Value) (xs : List EV) (A : Option Addr) (m : List EV) (n c : Nat) (ho : w.ownsRow B 38 7 v k (ev xs)) (hA : A = none → n = 0 ∧ c = 0) (hb : Dt.Lies w w.heap.size A (ev m)) (hl : m.length = n)
    (hn : k + n ≤ 1649267441664) (hB : B ≤ w.heap.size) :
    ∃ A' c' w', (Builtin.append_ #[22, 22] 22 #[v, .slice A n c]).run Try.prog w = .ok (.slice A' (k + n) c') w' ∧
      w'.ownsRow B 38 7 (.slice A' (k + n) c') (k + n) (ev (xs ++ m)) ∧ w.grownBy w' v.ownBlock := by
  obtain ⟨i0, hi0, hz0, hz1, hz2⟩ := info_parts evt_info
  cases A with
  | none =>
    obtain ⟨rfl, rfl⟩ := hA rfl
    obtain rfl := List.eq_nil_of_length_eq_zero hl
    obtain ⟨A', c', rfl⟩ := Dt.own_form ho
    exact ⟨A', c', w, run_append_owned_none (P := Try.prog) (w := w) B 22 22 38 i0 7 Try.underlying22 hi0 _ k (ev xs) ho, by rw [List.append_nil]; exact ho, Dt.turn_refl _ _⟩
  | some ad =>
    have hc : ∀ j u, (ev m)[j]? = some u → w.cell? (ad.add j) = some u := by
      intro j u hu
      have hjl : j < (ev m).length := (List.getElem?_eq_some_iff.1 hu).1
      obtain ⟨ad', e, hadb, hc⟩ := hb (by omega)
      obtain rfl := Option.some.inj e
      exact hc j u hu
    obtain ⟨v', w', hr, h2, h3, hat, h5⟩ := run_append_own_at (P := Try.prog) w B 22 22 38 i0 (.agg #[.int .u16 0, .int .u64 0, .int .u8 0, .int .u64 0, .int .u8 0, .string ⟨#[]⟩, .slice none 0 0]) 7 80 Try.underlying22 hi0 hz0 hz1 hz2 rfl (by decide) v k (ev xs) ho ad n c (ev m) (by rw [ev_length, hl]) hc (ev_one m) (by simp only [maxLen]; omega) (by omega) hB
    obtain ⟨A', c', rfl⟩ := Dt.own_form h2
    exact ⟨A', c', w', hr, by rw [ev_append]; exact h2, h3⟩
theorem wpList_evt {ops : Array Oper} {rest : List Oper} {o : Oper} {a : Act} {Q : Exit → Act → World → Prop} (hgd : o.guard = none) (s x : Operand) (ho : o.op = .call { callee := .builtin .append, args := #[s, x], argTypes := #[22, 22] }) (hty : o.type = 22)
    (w : World) (B k : Nat) (v : Value) (xs : List EV) (A : Option Addr) (m : List EV) (n c : Nat) (hs : a.eval s = v) (hx : a.eval x = .slice A n c) (hw : w.ownsRow B 38 7 v k (ev xs)) (hA : A = none → n = 0 ∧ c = 0) (hb : Dt.Lies w w.heap.size A (ev m)) (hl : m.length = n)
    (hn : k + n ≤ 1649267441664) (hB : B ≤ w.heap.size)
    (hK : ∀ A' c' w', w'.ownsRow B 38 7 (.slice A' (k + n) c') (k + n) (ev (xs ++ m)) → w.grownBy w' v.ownBlock → wpList Try.prog ops Q rest (a.put o.dst (.slice A' (k + n) c')) w') : wpList Try.prog ops Q (o :: rest) a w := by
  refine wpList_plain hgd fun K hQ => ?_
  obtain ⟨A', c', w', hr, h2, h3⟩ := run_evt w B k v xs A m n c hw hA hb hl hn hB
  rw [← hty] at hr
  unfold Oper.wp execOp
  simp only [ho, resolve, invoke, builtin, Sem.run_bind, Sem.run_pure, Result.andThen_ok, List.map_toArray, List.map_cons, List.map_nil, hs, hx]
  rw [hty] at hr ⊢
  rw [hr]
  exact hQ _ _ (hK _ _ _ h2 h3)
/-- a list of one's own has grown: what lay, lies. -/
theorem evt_grown {w wr w2 : World} {v : Value} {m : Nat} {xs : List Value} (ho : wr.ownsRow w.heap.size 38 7 v m xs) (hb : Below w.heap.size w wr) (hg : wr.grownBy w2 v.ownBlock) : Below w.heap.size w w2 :=
  hb.grown hg hb.size (fun k hk => (ho.lt k hk).1)
theorem bel_alloc {w W : World} (o : Obj) (h : Below w.heap.size w W) : Below w.heap.size w (W.alloc o) := h.alloc h.size o

/-- a list of events comes out. -/
def EvPost (w : World) (l : List Evt) (e : Ending) (w' : World) : Prop := ∃ A n c, e = .returned (.slice A n c) ∧ EventsAt w' w'.heap.size A l n c ∧ Below w.heap.size w w'
/-- one event more: has the new one been put, and the list so far. -/
def stepE (e : Evt) (s : Bool × List Evt) (x : Evt) : Bool × List Evt := if Dt.aheadD e.dot x.dot = true ∧ s.1 = false then (true, s.2 ++ [e, x]) else (s.1, s.2 ++ [x])
def stE (l : List Evt) (e : Evt) (k : Nat) : Bool × List Evt := (l.take k).foldl (stepE e) (false, [])
/-- an event more, in its place, but that one with its dot is there. -/
noncomputable def putE (l : List Evt) (e : Evt) : List Evt := if ∃ x ∈ l, x.dot = e.dot then l else if (stE l e l.length).1 = true then (stE l e l.length).2 else (stE l e l.length).2 ++ [e]
theorem st_next {l : List Evt} {e x : Evt} {k : Nat} (h : l[k]? = some x) : stE l e (k + 1) = stepE e (stE l e k) x := by
  unfold stE
  rw [List.take_add_one, h, List.foldl_append]
  rfl
theorem st_long (l : List Evt) (e : Evt) (k : Nat) : (stE l e k).2.length ≤ k + (if (stE l e k).1 = true then 1 else 0) := by
  have h : ∀ (m : List Evt) (s : Bool × List Evt), (m.foldl (stepE e) s).2.length + (if s.1 = true then 1 else 0) ≤ s.2.length + m.length + (if (m.foldl (stepE e) s).1 = true then 1 else 0) := by
    intro m
    induction m with
    | nil => intro s; exact Nat.le_refl _
    | cons x m ih =>
      intro s
      have h1 := ih (stepE e s x)
      rw [List.foldl_cons]
      unfold stepE at h1 ⊢
      obtain ⟨b, t⟩ := s
      by_cases hc : Dt.aheadD e.dot x.dot = true ∧ b = false
      · rw [if_pos hc] at h1 ⊢
        obtain ⟨_, rfl⟩ := hc
        simp only [List.length_append, List.length_cons, List.length_nil] at h1 ⊢
        simp only [reduceIte, Bool.false_eq_true] at h1 ⊢
        omega
      · rw [if_neg hc] at h1 ⊢
        simp only [List.length_append, List.length_cons, List.length_nil] at h1 ⊢
        omega
  have h2 := h (l.take k) (false, [])
  have h3 : (l.take k).length ≤ k := List.length_take_le _ _
  unfold stE
  simp only [List.length_nil, Bool.false_eq_true, if_false, Nat.add_zero, Nat.zero_add] at h2
  omega
theorem put_there {l : List Evt} {e x : Evt} {k : Nat} (h : l[k]? = some x) (hd : x.dot = e.dot) : putE l e = l := by
  unfold putE
  rw [if_pos ⟨x, List.mem_of_getElem? h, hd⟩]
/-- no event so far has the dot. -/
def NoDot (l : List Evt) (e : Evt) (k : Nat) : Prop := ∀ j x, j < k → l[j]? = some x → x.dot ≠ e.dot
theorem nodot_next {l : List Evt} {e x : Evt} {k : Nat} (h : NoDot l e k) (hx : l[k]? = some x) (hd : x.dot ≠ e.dot) : NoDot l e (k + 1) := fun j y hj hy => by
  rcases Nat.lt_succ_iff_lt_or_eq.1 hj with h2 | rfl
  · exact h j y h2 hy
  · rw [hx] at hy; cases hy; exact hd
theorem put_done {l : List Evt} {e : Evt} {n : Nat} (hn : l.length = n) (h : NoDot l e n) : putE l e = if (stE l e n).1 = true then (stE l e n).2 else (stE l e n).2 ++ [e] := by
  unfold putE
  rw [if_neg (fun ⟨x, hx, hd⟩ => by obtain ⟨j, hj, rfl⟩ := List.getElem_of_mem hx; exact h j _ (by omega) (List.getElem?_eq_getElem hj) hd), hn]
theorem match_snoc {w : World} {B : Nat} {ps : List EV} {l : List Evt} {p : EV} {x : Evt} (h : Match w B ps l) (hp : EventIs w B p x) : Match w B (ps ++ [p]) (l ++ [x]) := h.snoc hp
/-- what a round of Put knows. -/
def PRel (w w1 : World) (n : Nat) (l : List Evt) (x : Evt) (v b i : Value) (wr : World) : Prop :=
  ∃ k m A c ps, k ≤ n ∧ i = .int .i64 ((k : Nat) : Int) ∧ b = .bool (stE l x k).1 ∧ v = .slice A m c ∧ ps.length = m ∧ Match w w.heap.size ps (stE l x k).2 ∧ wr.ownsRow w1.heap.size 38 7 (.slice A m c) m (ev ps) ∧ NoDot l x k ∧ Below w1.heap.size w1 wr
theorem own_events {w w1 wr : World} {A : Option Addr} {m c : Nat} {ps : List EV} {l : List Evt} (hb : Below w.heap.size w wr) (hm : Match w w.heap.size ps l) (hl : ps.length = m) (hw : m ≤ 2199023255552) (ho : wr.ownsRow w1.heap.size 38 7 (.slice A m c) m (ev ps)) : EventsAt wr wr.heap.size A l m c := by
  obtain ⟨h1, h2, h3⟩ := Dt.own_len ho
  exact ⟨by rw [← hm.1]; exact hl, h3, h1, h2, hw, ps, Dt.lies_any (by decide) ho, (hm.below hb).more hb.size⟩
end Go.Proofs.Ytmebokpgiehgmaa.Ev

/- The contract of the document's Put of layer event. For every list of at most 2^40 events. -/
namespace Go.Proofs.Ytmebokpgiehgmaa.Ev
open Go.ChangeShapes Go.WideShapes Go.ChangeAt Go.RowKit
set_option linter.unusedVariables false
set_option maxRecDepth 4000

theorem bel_drew {w W : World} (h : Below w.heap.size w W) : Below w.heap.size w W.drew := h.drew
theorem cells_later {w V : World} {a : Addr} {p : EV} (h : CellsAt w a p) (hb : Below w.heap.size w V) : CellsAt V a p := h.kept hb
theorem cmp_zero {a b : Dt.Dot} (h : ¬ a = b) : (Dt.cmpD a b == 0) = false := by
  rw [beq_eq_false_iff_ne]
  unfold Dt.cmpD
  rw [if_neg h]
  split <;> omega
theorem is_dot {w : World} {B : Nat} {p : EV} {x : Evt} (h : EventIs w B p x) : x.dot = (p.dev, p.num) := by rw [h.dev, h.num]
theorem p_rel {w w1 wr : World} {n k m c : Nat} {A : Option Addr} {l : List Evt} {x y : Evt} {ps : List EV} {b : Bool} {o : List Evt} (hk : k < n) (hy : l[k]? = some y) (hs : stepE x (stE l x k) y = (b, o)) (hm : ps.length = m) (hma : Match w w.heap.size ps o) (ho : wr.ownsRow w1.heap.size 38 7 (.slice A m c) m (ev ps)) (hn : NoDot l x k) (hd : y.dot ≠ x.dot) (hb : Below w1.heap.size w1 wr) :
    PRel w w1 n l x (.slice A m c) (.bool b) (.int .i64 ((k : Int) + 1)) wr := by
  have h := st_next (e := x) hy
  rw [hs] at h
  exact ⟨k + 1, m, A, c, ps, hk, by go_num, by rw [h], rfl, hm, by rw [h]; exact hma, ho, nodot_next hn hy hd, hb⟩

set_option maxHeartbeats 8000000 in
theorem rput_any (w : World) (A0 : Option Addr) (l : List Evt) (n c0 : Nat) (p : EV) (x : Evt) (hl : EventsAt w w.heap.size A0 l n c0) (hp : EventIs w w.heap.size p x) (h40 : n ≤ 1099511627776) :
    Calls Try.prog 20 #[.slice A0 n c0, p.val] w (EvPost w (putE l x)) := by
  have HL := Lib.hid hl
  have HP := Lib.hid hp
  have hpd := Lib.hid (is_dot hp)
  clear hl hp
  simp only [EV.val]
  have HB1 := Lib.hid (below_new w p.box)
  have hbx := (box_new w p _ (Below.refl _ _)).all
  simp only [EV.box] at HB1 hbx
  go_enter Try.func20, Try.ntmps20
  go_wp2_with fail
  generalize hw1 : w.alloc (.cells #[.int .u16 (p.dev : Int), .int .u64 (p.num : Int), .int .u8 (p.kind : Int), .int .u64 (p.cid : Int), .int .u8 (p.fld : Int), .string p.txt, .slice p.adr p.len p.cap] 38) = w1 at *
  clear hw1
  have HD : Hid (∀ V, Below w1.heap.size w1 V → V.cell? ⟨w.heap.size, 0, none⟩ = some (.int .u16 (p.dev : Int)) ∧ V.cell? ⟨w.heap.size, 1, none⟩ = some (.int .u64 (p.num : Int)) ∧ V.cell? ⟨w.heap.size, 2, none⟩ = some (.int .u8 (p.kind : Int)) ∧ V.cell? ⟨w.heap.size, 3, none⟩ = some (.int .u64 (p.cid : Int)) ∧ V.cell? ⟨w.heap.size, 4, none⟩ = some (.int .u8 (p.fld : Int)) ∧ V.cell? ⟨w.heap.size, 5, none⟩ = some (.string p.txt) ∧ V.cell? ⟨w.heap.size, 6, none⟩ = some (.slice p.adr p.len p.cap)) := Lib.hid (fun V hV =>
    ⟨stays hV hbx.1, stays hV hbx.2.1, stays hV hbx.2.2.1, stays hV hbx.2.2.2.1, stays hV hbx.2.2.2.2.1, stays hV hbx.2.2.2.2.2.1, stays hV hbx.2.2.2.2.2.2⟩)
  clear hbx
  go_loopw [5, 6, 7] (fun v b i wr => PRel w w1 n l x v b i wr) (fun _ _ i _ => n - (intOf i).toNat)
  case atStart => exact ⟨0, 0, none, 0, [], Nat.zero_le _, rfl, rfl, rfl, rfl, Match.nil_ _ _, World.ownsRow_nil _ _ _ _, fun j y hj => absurd hj (Nat.not_lt_zero _), Below.refl _ _⟩
  case round =>
    obtain ⟨k, m, A, c, ps, hk, rfl, rfl, rfl, hm, hma, ho, hnd, hw⟩ := hrel
    have hmk : m ≤ k + 1 := by
      have h1 := st_long l x k
      rw [← hm, hma.1]
      split at h1 <;> omega
    have HM := Lib.hid hm
    have HMA := Lib.hid hma
    have HO := Lib.hid ho
    have HND := Lib.hid hnd
    have HW := Lib.hid hw
    clear hm hma ho hnd hw
    by_cases hlt : k < n
    · obtain ⟨ad, q, y, rfl, hB, hly, hq, cq⟩ := HL.out.at_ hlt
      have HQ : Hid (∀ V, Below w1.heap.size w1 V → CellsAt V (ad.add (k * 7)) q) := Lib.hid (fun V hV => cells_later cq (HB1.out.trans (hV.mono HB1.out.size)))
      have hqd := Lib.hid (is_dot hq)
      have HQI := Lib.hid hq
      have HLY := Lib.hid hly
      clear hly hq cq
      have HC : Hid (∀ V, Below wr.heap.size wr V → (V.cell? (ad.add (k * 7)) = some (.int .u16 (q.dev : Int)) ∧ V.cell? ⟨(ad.add (k * 7)).block, (ad.add (k * 7)).off + 1, none⟩ = some (.int .u64 (q.num : Int))) ∧ V.cell? ⟨w.heap.size, 0, none⟩ = some (.int .u16 (p.dev : Int)) ∧ V.cell? ⟨w.heap.size, 1, none⟩ = some (.int .u64 (p.num : Int))) := Lib.hid (fun V hV => by
        have hb := HW.out.trans (hV.mono HW.out.size)
        have h1 := HQ.out V hb
        have h2 := HD.out V hb
        exact ⟨⟨h1.c0, h1.c1⟩, h2.1, h2.2.1⟩)
      obtain ⟨⟨d1, d2⟩, d3, d4⟩ := HC.out wr (Below.refl _ _)
      go_wp2_with fail
      go_region_held3 (fun V => (V.cell? (ad.add (k * 7)) = some (.int .u16 (q.dev : Int)) ∧ V.cell? ⟨(ad.add (k * 7)).block, (ad.add (k * 7)).off + 1, none⟩ = some (.int .u64 (q.num : Int))) ∧ V.cell? ⟨w.heap.size, 0, none⟩ = some (.int .u16 (p.dev : Int)) ∧ V.cell? ⟨w.heap.size, 1, none⟩ = some (.int .u64 (p.num : Int))) (first | exact ⟨⟨d1, d2⟩, d3, d4⟩ | assumption | exact HC.out _ (by (repeat (first | exact Below.refl _ _ | assumption | apply bel_drew)))) (first
        | (go_at_call 34; (with_reducible refine (Dt.rcmp_later wr _ (q.dev, q.num) (p.dev, p.num) ?_).mono ?_); (repeat (first | exact Below.refl _ _ | assumption | apply bel_drew)); rintro e V ⟨rfl, bv⟩; have hcV := HC.out V bv))
      all_goals
        have HV : Hid (Below w1.heap.size w1 V) := HW.out.trans (bv.mono HW.out.size)
        have HOV := Lib.hid (Dt.own_kept HO.out bv)
        have HWV := Lib.hid (HB1.out.trans (HV.out.mono HB1.out.size))
        clear bv d1 d2 d3 d4 hcV HC
        by_cases hdot : (q.dev, q.num) = (p.dev, p.num)
        · have hz : Dt.cmpD (q.dev, q.num) (p.dev, p.num) = 0 := by rw [hdot]; exact Dt.cmp_same _
          rw [hz]
          have HR := Lib.hid (put_there (e := x) HLY.out (by rw [hqd.out, hpd.out, hdot]))
          clear hdot hz
          go_wp2
          go_ret
          rw [HR.out]
          exact ⟨some ad, n, c0, rfl, (HL.out.below HWV.out).more HWV.out.size, HWV.out⟩
        · have hz := cmp_zero hdot
          have hz2 := Dt.cmp_pos (q.dev, q.num) (p.dev, p.num)
          have hyx : y.dot ≠ x.dot := by rw [hqd.out, hpd.out]; exact hdot
          generalize Dt.cmpD (q.dev, q.num) (p.dev, p.num) = z at hz hz2 ⊢
          obtain ⟨e0, e1, e2, e3, e4, e5, e6⟩ := HQ.out V HV.out
          clear hdot
          cases ha : Dt.aheadD (p.dev, p.num) (q.dev, q.num) with
          | false =>
            rw [ha] at hz2
            have HS0 : Hid (stepE x (stE l x k) y = ((stE l x k).1, (stE l x k).2 ++ [y])) := Lib.hid (by unfold stepE; rw [hqd.out, hpd.out, ha, if_neg (by simp)])
            clear ha
            generalize (stE l x k).1 = b at *
            have HS := HS0
            have HLO : Hid (m + 1 ≤ 1649267441664) := Lib.hid (by omega)
            have HWA : Hid (Below w1.heap.size w1 (V.alloc q.box)) := Lib.hid (bel_alloc _ HV.out)
            go_wp2_with (at_builtin; refine wpList_evt rfl (.tmp 36) (.tmp 41) rfl rfl _ w1.heap.size m (.slice A m c) ps (some ⟨V.heap.size, 0, none⟩) [q] 1 1 rfl rfl (HOV.out.alloc _) (fun h => by cases h) (lies_evt V q) rfl HLO.out HWA.out.size ?_; intro A3 c3 V3 ho3 hg3; have HR := Lib.hid (p_rel hlt HLY.out HS.out (by rw [List.length_append, HM.out]; rfl) (HMA.out.snoc HQI.out) ho3 HND.out hyx (evt_grown (HOV.out.alloc _) HWA.out hg3)); clear ho3 hg3)
            go_roundw
            case rel => exact HR.out
            case measure => simp [intOf]; omega
          | true =>
            rw [ha] at hz2
            cases hb : (stE l x k).1 with
            | true =>
              have HS : Hid (stepE x (stE l x k) y = (true, (stE l x k).2 ++ [y])) := Lib.hid (by unfold stepE; rw [hb, if_neg (by simp)])
              clear ha
              have HLO : Hid (m + 1 ≤ 1649267441664) := Lib.hid (by omega)
              have HWA : Hid (Below w1.heap.size w1 (V.alloc q.box)) := Lib.hid (bel_alloc _ HV.out)
              go_wp2_with (at_builtin; refine wpList_evt rfl (.tmp 36) (.tmp 41) rfl rfl _ w1.heap.size m (.slice A m c) ps (some ⟨V.heap.size, 0, none⟩) [q] 1 1 rfl rfl (HOV.out.alloc _) (fun h => by cases h) (lies_evt V q) rfl HLO.out HWA.out.size ?_; intro A3 c3 V3 ho3 hg3; have HR := Lib.hid (p_rel hlt HLY.out HS.out (by rw [List.length_append, HM.out]; rfl) (HMA.out.snoc HQI.out) ho3 HND.out hyx (evt_grown (HOV.out.alloc _) HWA.out hg3)); clear ho3 hg3)
              go_roundw
              case rel => exact HR.out
              case measure => simp [intOf]; omega
            | false =>
              have HS : Hid (stepE x (stE l x k) y = (true, (stE l x k).2 ++ [x] ++ [y])) := Lib.hid (by unfold stepE; rw [hb, hqd.out, hpd.out, ha, if_pos ⟨rfl, rfl⟩, List.append_assoc]; rfl)
              clear ha
              have HLO : Hid (m + 1 ≤ 1649267441664) := Lib.hid (by omega)
              have HWA : Hid (Below w1.heap.size w1 (V.alloc p.box)) := Lib.hid (bel_alloc _ HV.out)
              obtain ⟨p0, p1, p2, p3, p4, p5, p6⟩ := HD.out V HV.out
              go_upto_region 12 with (at_builtin; refine wpList_evt rfl (.tmp 32) (.tmp 34) rfl rfl _ w1.heap.size m (.slice A m c) ps (some ⟨V.heap.size, 0, none⟩) [p] 1 1 rfl rfl (HOV.out.alloc _) (fun h => by cases h) (lies_evt V p) rfl HLO.out HWA.out.size ?_; intro A3 c3 V3 ho3 hg3; have HO2 := Lib.hid ho3; have HW2 := Lib.hid (evt_grown (HOV.out.alloc _) HWA.out hg3); clear ho3 hg3)
              clear p0 p1 p2 p3 p4 p5 p6 e0 e1 e2 e3 e4 e5 e6
              obtain ⟨e0, e1, e2, e3, e4, e5, e6⟩ := HQ.out V3 HW2.out
              have HLO2 : Hid (m + 1 + 1 ≤ 1649267441664) := Lib.hid (by omega)
              have HWA2 : Hid (Below w1.heap.size w1 (V3.alloc q.box)) := Lib.hid (bel_alloc _ HW2.out)
              go_wp2_with (at_builtin; refine wpList_evt rfl (.tmp 36) (.tmp 41) rfl rfl _ w1.heap.size (m + 1) (.slice A3 (m + 1) c3) (ps ++ [p]) (some ⟨V3.heap.size, 0, none⟩) [q] 1 1 rfl rfl (HO2.out.alloc _) (fun h => by cases h) (lies_evt V3 q) rfl HLO2.out HWA2.out.size ?_; intro A4 c4 V4 ho3 hg3; have HR := Lib.hid (p_rel hlt HLY.out HS.out (by rw [List.length_append, List.length_append, HM.out]; rfl) ((HMA.out.snoc HP.out).snoc HQI.out) ho3 HND.out hyx (evt_grown (HO2.out.alloc _) HWA2.out hg3)); clear ho3 hg3)
              go_roundw
              case rel => exact HR.out
              case measure => simp [intOf]; omega
    · obtain rfl : k = n := by omega
      have HR := Lib.hid (put_done HL.out.len HND.out)
      have HWE := Lib.hid (HB1.out.trans (HW.out.mono HB1.out.size))
      cases hb : (stE l x k).1 with
      | true =>
        have HE : Hid (putE l x = (stE l x k).2) := Lib.hid (by rw [HR.out, hb, if_pos rfl])
        go_wp2
        go_ret
        rw [HE.out]
        exact ⟨A, m, c, rfl, own_events HWE.out HMA.out HM.out (by omega) HO.out, HWE.out⟩
      | false =>
        have HE : Hid (putE l x = (stE l x k).2 ++ [x]) := Lib.hid (by rw [HR.out, hb, if_neg (by simp)])
        have HLO : Hid (m + 1 ≤ 1649267441664) := Lib.hid (by omega)
        have HWA : Hid (Below w1.heap.size w1 (wr.alloc p.box)) := Lib.hid (bel_alloc _ HW.out)
        obtain ⟨p0, p1, p2, p3, p4, p5, p6⟩ := HD.out wr HW.out
        go_wp2_with (at_builtin; refine wpList_evt rfl (.tmp 45) (.tmp 47) rfl rfl _ w1.heap.size m (.slice A m c) ps (some ⟨wr.heap.size, 0, none⟩) [p] 1 1 rfl rfl (HO.out.alloc _) (fun h => by cases h) (lies_evt wr p) rfl HLO.out HWA.out.size ?_; intro A3 c3 V3 ho3 hg3; have HO2 := Lib.hid ho3; have HW2 := Lib.hid (evt_grown (HO.out.alloc _) HWA.out hg3); clear ho3 hg3)
        go_ret
        rw [HE.out]
        have HWE3 := HB1.out.trans (HW2.out.mono HB1.out.size)
        exact ⟨A3, m + 1, c3, rfl, own_events HWE3 (HMA.out.snoc HP.out) (by rw [List.length_append, HM.out]; rfl) (by omega) HO2.out, HWE3⟩
end Go.Proofs.Ytmebokpgiehgmaa.Ev

/- The contracts of the document's Put and Sort of layer dot. Put: for every list of at most 2^42 dots. -/
namespace Go.Proofs.Ytmebokpgiehgmaa.Dt
open Go.ChangeShapes Go.WideShapes Go.ChangeAt Go.RowKit
set_option linter.unusedVariables false

theorem bel_alloc {w W : World} (o : Obj) (h : Below w.heap.size w W) : Below w.heap.size w (W.alloc o) := h.alloc h.size o
/-- what a round of Put knows: the dots so far, of one's own; the world. -/
def PRel (w1 : World) (n : Nat) (f : Nat → List Dot) (v i : Value) (wr : World) : Prop :=
  ∃ k m A c, k ≤ n ∧ i = .int .i64 ((k : Nat) : Int) ∧ v = .slice A m c ∧ (f k).length = m ∧ wr.ownsRow w1.heap.size 26 2 (.slice A m c) m (dv (f k)) ∧ Below w1.heap.size w1 wr
theorem p_rel {w1 wr : World} {n k m c : Nat} {A : Option Addr} {f : Nat → List Dot} {o : List Dot} (hk : k < n) (hs : f (k + 1) = o) (hm : o.length = m) (ho : wr.ownsRow w1.heap.size 26 2 (.slice A m c) m (dv o)) (hb : Below w1.heap.size w1 wr) : PRel w1 n f (.slice A m c) (.int .i64 ((k : Int) + 1)) wr :=
  ⟨k + 1, m, A, c, hk, by go_num, rfl, by rw [hs]; exact hm, by rw [hs]; exact ho, hb⟩

set_option maxHeartbeats 8000000 in
theorem rput_any (w : World) (A0 : Option Addr) (l : List Dot) (n c0 : Nat) (d : Dot) (hl : l.length = n) (hb : Dots w w.heap.size A0 l) (h42 : n ≤ 4398046511104) :
    Calls Try.prog 33 #[.slice A0 n c0, .agg #[.int .u16 (d.1 : Int), .int .u64 (d.2 : Int)]] w (DotPost w (putD l d)) := by
  have HL := Lib.hid hl
  have HB1 : Hid (Below w.heap.size w (w.alloc (.cells #[.int .u16 (d.1 : Int), .int .u64 (d.2 : Int)] 26))) := below_new w _
  have hd0 : (w.alloc (.cells #[.int .u16 (d.1 : Int), .int .u64 (d.2 : Int)] 26)).cell? ⟨w.heap.size, 0, none⟩ = some (.int .u16 (d.1 : Int)) := by rw [World.cell?_alloc_mark]; rfl
  have hd1 : (w.alloc (.cells #[.int .u16 (d.1 : Int), .int .u64 (d.2 : Int)] 26)).cell? ⟨w.heap.size, 1, none⟩ = some (.int .u64 (d.2 : Int)) := by rw [World.cell?_alloc_mark]; rfl
  have H1 := Lib.hid (hb.up (below_new w (.cells #[.int .u16 (d.1 : Int), .int .u64 (d.2 : Int)] 26)))
  clear hb hl
  go_enter Try.func33, Try.ntmps33
  go_wp2_with fail
  generalize hw1 : w.alloc (.cells #[.int .u16 (d.1 : Int), .int .u64 (d.2 : Int)] 26) = w1 at *
  clear hw1
  have HD : Hid (∀ V, Below w1.heap.size w1 V → V.cell? ⟨w.heap.size, 0, none⟩ = some (.int .u16 (d.1 : Int)) ∧ V.cell? ⟨w.heap.size, 1, none⟩ = some (.int .u64 (d.2 : Int))) := fun V hV => ⟨(hV.cell (World.block_lt_of_cell? w1 _ hd0)).trans hd0, (hV.cell (World.block_lt_of_cell? w1 _ hd1)).trans hd1⟩
  clear hd0 hd1
  obtain ⟨f, hf⟩ : ∃ f : Nat → List Dot, f = fun k => (l.take k).filter (fun x => aheadD x d) := ⟨_, rfl⟩
  have HF : Hid (∀ k, (f k).length ≤ k) := Lib.hid (fun k => by rw [hf]; exact Nat.le_trans (List.length_filter_le _ _) (List.length_take_le _ _))
  have HFE : Hid (∀ k, f k = (l.take k).filter (fun x => aheadD x d)) := Lib.hid (fun k => by rw [hf])
  clear hf
  go_loopw [5, 6] (fun v i wr => PRel w1 n f v i wr) (fun _ i _ => n - (intOf i).toNat)
  case atStart => exact ⟨0, 0, none, 0, Nat.zero_le _, rfl, rfl, by rw [HFE.out]; rfl, by rw [HFE.out]; exact World.ownsRow_nil _ _ _ _, Below.refl _ _⟩
  case round =>
    obtain ⟨k, m, A, c, hk, rfl, rfl, hm, ho, hw⟩ := hrel
    have hmk : m ≤ k := by rw [← hm]; exact HF.out k
    have HM := Lib.hid hm
    have HO := Lib.hid ho
    have HW := Lib.hid hw
    clear hm ho hw
    by_cases hlt : k < n
    · obtain ⟨ad, x, rfl, hB, hlx, hx1, hx2, hcx⟩ := H1.out.cells (k := k) (by rw [HL.out]; exact hlt)
      have HN := Lib.hid (filter_next (fun x => aheadD x d) hlx)
      clear hlx
      have HC : Hid (∀ V, Below wr.heap.size wr V → (V.cell? (ad.add (k * 2)) = some (.int .u16 (x.1 : Int)) ∧ V.cell? ⟨(ad.add (k * 2)).block, (ad.add (k * 2)).off + 1, none⟩ = some (.int .u64 (x.2 : Int))) ∧ V.cell? ⟨w.heap.size, 0, none⟩ = some (.int .u16 (d.1 : Int)) ∧ V.cell? ⟨w.heap.size, 1, none⟩ = some (.int .u64 (d.2 : Int))) := fun V hV =>
        ⟨hcx V (HW.out.trans (hV.mono HW.out.size)), HD.out V (HW.out.trans (hV.mono HW.out.size))⟩
      clear hcx
      obtain ⟨⟨d1, d2⟩, d3, d4⟩ := HC.out wr (Below.refl _ _)
      go_wp2_with fail
      go_region_held3 (fun V => (V.cell? (ad.add (k * 2)) = some (.int .u16 (x.1 : Int)) ∧ V.cell? ⟨(ad.add (k * 2)).block, (ad.add (k * 2)).off + 1, none⟩ = some (.int .u64 (x.2 : Int))) ∧ V.cell? ⟨w.heap.size, 0, none⟩ = some (.int .u16 (d.1 : Int)) ∧ V.cell? ⟨w.heap.size, 1, none⟩ = some (.int .u64 (d.2 : Int))) (first | exact ⟨⟨d1, d2⟩, d3, d4⟩ | assumption | exact HC.out _ (by (repeat (first | exact Below.refl _ _ | assumption | apply bel_drew)))) (first
        | (go_at_call 34; (with_reducible refine (rcmp_later wr _ x d ?_).mono ?_); (repeat (first | exact Below.refl _ _ | assumption | apply bel_drew)); rintro e V ⟨rfl, bv⟩; have hcV := HC.out V bv))
      all_goals
        have HV : Hid (Below w1.heap.size w1 V) := HW.out.trans (bv.mono HW.out.size)
        have HOV := Lib.hid (own_kept HO.out bv)
        obtain ⟨⟨v1, v2⟩, _⟩ := hcV
        clear bv d1 d2 d3 d4
        rw [cmp_neg]
        cases ha : aheadD x d with
        | true =>
          rw [ha] at HN
          have HLO : Hid (m + 1 ≤ 8796093022208) := Lib.hid (by omega)
          have HWA : Hid (Below w1.heap.size w1 (V.alloc (.cells #[.int .u16 (x.1 : Int), .int .u64 (x.2 : Int)] 26))) := bel_alloc _ HV.out
          have HS : Hid (f (k + 1) = f k ++ [x]) := Lib.hid (by rw [HFE.out, HFE.out]; exact HN.out.trans (by rw [if_pos rfl]))
          clear ha
          go_wp2_with (at_builtin; refine wpList_any rfl (.tmp 21) (.tmp 26) rfl rfl _ w1.heap.size m (.slice A m c) (f k) (some ⟨V.heap.size, 0, none⟩) [x] 1 1 rfl rfl (HOV.out.alloc _) (fun h => by cases h) (lies_one V x) rfl HLO.out HWA.out.size ?_; intro A3 c3 V3 ho3 hg3; have HR := Lib.hid (p_rel hlt HS.out (by rw [List.length_append, HM.out]; rfl) ho3 (any_grown (HOV.out.alloc _) HWA.out hg3)); clear ho3 hg3)
          go_roundw
          case rel => exact HR.out
          case measure => simp [intOf]; omega
        | false =>
          rw [ha] at HN
          have HS : Hid (f (k + 1) = f k) := Lib.hid (by rw [HFE.out, HFE.out]; exact HN.out.trans (by rw [if_neg (by simp), List.append_nil]))
          have HR := Lib.hid (p_rel hlt HS.out HM.out HOV.out HV.out)
          clear ha v1 v2
          go_wp2
          go_roundw
          case rel => exact HR.out
          case measure => simp [intOf]; omega
    · obtain rfl : n = k := by omega
      have HE : Hid (f n = l.filter (fun x => aheadD x d)) := Lib.hid (by rw [HFE.out, List.take_of_length_le (by rw [HL.out]; exact Nat.le_refl _)])
      obtain ⟨d3, d4⟩ := HD.out wr HW.out
      have HLO : Hid (m + 1 ≤ 8796093022208) := Lib.hid (by omega)
      have HWA : Hid (Below w1.heap.size w1 (wr.alloc (.cells #[.int .u16 (d.1 : Int), .int .u64 (d.2 : Int)] 26))) := bel_alloc _ HW.out
      go_wp2_with (at_builtin; refine wpList_any rfl (.tmp 28) (.tmp 30) rfl rfl _ w1.heap.size m (.slice A m c) (f n) (some ⟨wr.heap.size, 0, none⟩) [d] 1 1 rfl rfl (HO.out.alloc _) (fun h => by cases h) (lies_one wr d) rfl HLO.out HWA.out.size ?_; intro A3 c3 V3 ho3 hg3; have HO3 := Lib.hid ho3; have HW3 := Lib.hid (any_grown (HO.out.alloc _) HWA.out hg3); clear ho3 hg3)
      obtain ⟨g, hg⟩ : ∃ g : Nat → List Dot, g = fun j => l.filter (fun x => aheadD x d) ++ [d] ++ (l.take j).filter (fun x => aheadD d x) := ⟨_, rfl⟩
      have HGE : Hid (∀ j, g j = l.filter (fun x => aheadD x d) ++ [d] ++ (l.take j).filter (fun x => aheadD d x)) := Lib.hid (fun j => by rw [hg])
      have HG : Hid (∀ j, (g j).length ≤ n + 1) := Lib.hid (fun j => by
        have h1 := put_length l d
        have h2 : ((l.take j).filter (fun x => aheadD d x)).length ≤ (l.filter (fun x => aheadD d x)).length := ((List.take_sublist j l).filter _).length_le
        rw [HL.out] at h1
        rw [HGE.out]
        unfold putD at h1
        simp only [List.length_append] at h1 ⊢
        omega)
      clear hg d3 d4 HLO
      have HS0 : Hid (g 0 = f n ++ [d]) := Lib.hid (by rw [HGE.out, HE.out]; simp)
      have HM0 : Hid ((f n ++ [d]).length = m + 1) := Lib.hid (by rw [List.length_append, HM.out]; rfl)
      clear hmk HF HFE HM HO HW HWA HE hlt hk
      generalize f n = fk at HS0 HM0 HO3
      go_loopw [5, 7] (fun v i wr => PRel w1 n g v i wr) (fun _ i _ => n - (intOf i).toNat)
      case atStart => exact ⟨0, m + 1, A3, c3, Nat.zero_le _, rfl, rfl, by rw [HS0.out]; exact HM0.out, by rw [HS0.out]; exact HO3.out, HW3.out⟩
      case round =>
        clear HS0 HM0 HO3 HW3
        obtain ⟨k, m, A, c, hk, rfl, rfl, hm, ho, hw⟩ := hrel
        have hmk : m ≤ n + 1 := by rw [← hm]; exact HG.out k
        have HM := Lib.hid hm
        have HO := Lib.hid ho
        have HW := Lib.hid hw
        clear hm ho hw
        by_cases hlt : k < n
        · obtain ⟨ad, x, rfl, hB, hlx, hx1, hx2, hcx⟩ := H1.out.cells (k := k) (by rw [HL.out]; exact hlt)
          have HN := Lib.hid (filter_next (fun x => aheadD d x) hlx)
          clear hlx
          have HC : Hid (∀ V, Below wr.heap.size wr V → (V.cell? (ad.add (k * 2)) = some (.int .u16 (x.1 : Int)) ∧ V.cell? ⟨(ad.add (k * 2)).block, (ad.add (k * 2)).off + 1, none⟩ = some (.int .u64 (x.2 : Int))) ∧ V.cell? ⟨w.heap.size, 0, none⟩ = some (.int .u16 (d.1 : Int)) ∧ V.cell? ⟨w.heap.size, 1, none⟩ = some (.int .u64 (d.2 : Int))) := fun V hV =>
            ⟨hcx V (HW.out.trans (hV.mono HW.out.size)), HD.out V (HW.out.trans (hV.mono HW.out.size))⟩
          clear hcx
          obtain ⟨⟨d1, d2⟩, d3, d4⟩ := HC.out wr (Below.refl _ _)
          go_wp2_with fail
          go_region_held3 (fun V => (V.cell? (ad.add (k * 2)) = some (.int .u16 (x.1 : Int)) ∧ V.cell? ⟨(ad.add (k * 2)).block, (ad.add (k * 2)).off + 1, none⟩ = some (.int .u64 (x.2 : Int))) ∧ V.cell? ⟨w.heap.size, 0, none⟩ = some (.int .u16 (d.1 : Int)) ∧ V.cell? ⟨w.heap.size, 1, none⟩ = some (.int .u64 (d.2 : Int))) (first | exact ⟨⟨d1, d2⟩, d3, d4⟩ | assumption | exact HC.out _ (by (repeat (first | exact Below.refl _ _ | assumption | apply bel_drew)))) (first
            | (go_at_call 34; (with_reducible refine (rcmp_later wr _ x d ?_).mono ?_); (repeat (first | exact Below.refl _ _ | assumption | apply bel_drew)); rintro e V ⟨rfl, bv⟩; have hcV := HC.out V bv))
          all_goals
            have HV : Hid (Below w1.heap.size w1 V) := HW.out.trans (bv.mono HW.out.size)
            have HOV := Lib.hid (own_kept HO.out bv)
            obtain ⟨⟨v1, v2⟩, _⟩ := hcV
            clear bv d1 d2 d3 d4
            rw [cmp_pos]
            cases ha : aheadD d x with
            | true =>
              rw [ha] at HN
              have HLO : Hid (m + 1 ≤ 8796093022208) := Lib.hid (by omega)
              have HWA : Hid (Below w1.heap.size w1 (V.alloc (.cells #[.int .u16 (x.1 : Int), .int .u64 (x.2 : Int)] 26))) := bel_alloc _ HV.out
              have HS : Hid (g (k + 1) = g k ++ [x]) := Lib.hid (by rw [HGE.out, HGE.out, List.append_assoc _ _ [x]]; exact congrArg _ (HN.out.trans (by rw [if_pos rfl])))
              clear ha
              go_wp2_with (at_builtin; refine wpList_any rfl (.tmp 45) (.tmp 50) rfl rfl _ w1.heap.size m (.slice A m c) (g k) (some ⟨V.heap.size, 0, none⟩) [x] 1 1 rfl rfl (HOV.out.alloc _) (fun h => by cases h) (lies_one V x) rfl HLO.out HWA.out.size ?_; intro A3 c3 V3 ho3 hg3; have HR := Lib.hid (p_rel hlt HS.out (by rw [List.length_append, HM.out]; rfl) ho3 (any_grown (HOV.out.alloc _) HWA.out hg3)); clear ho3 hg3)
              go_roundw
              case rel => exact HR.out
              case measure => simp [intOf]; omega
            | false =>
              rw [ha] at HN
              have HS : Hid (g (k + 1) = g k) := Lib.hid (by rw [HGE.out, HGE.out]; exact congrArg _ (HN.out.trans (by rw [if_neg (by simp), List.append_nil])))
              have HR := Lib.hid (p_rel hlt HS.out HM.out HOV.out HV.out)
              clear ha v1 v2
              go_wp2
              go_roundw
              case rel => exact HR.out
              case measure => simp [intOf]; omega
        · obtain rfl : n = k := by omega
          have HE2 : Hid (g n = putD l d) := Lib.hid (by rw [HGE.out, List.take_of_length_le (by rw [HL.out]; exact Nat.le_refl _)]; rfl)
          have HWE : Hid (Below w.heap.size w wr) := HB1.out.trans (HW.out.mono HB1.out.size)
          rw [HE2.out] at HM HO
          go_wp2
          go_ret
          exact ⟨A, m, c, rfl, HM.out, own_less HO.out HB1.out.size, HWE.out⟩
end Go.Proofs.Ytmebokpgiehgmaa.Dt
