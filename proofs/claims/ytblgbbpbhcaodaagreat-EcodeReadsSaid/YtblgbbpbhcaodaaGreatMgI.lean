/- Words and contracts that the proofs of this seat stand on, part 9 of 14. -/
import Derived.Test.YtblgbbpbhcaodaaGreatMgD
import Derived.Test.YtblgbbpbhcaodaaGreatMgH
import Derived.Deep.DeepCutAuto

/- What the frames of layer ecode's laws share: bytes that came in, as the walks take them. No condition. -/
namespace Go.Proofs.YtblgbbpbhcaodaaGreat.Ec
open Go.ChangeShapes Go.WideShapes Go.ChangeAt Go.RowKit Go.Deep Go.Joins Go.Proofs.YtblgbbpbhcaodaaGreat.Dc
set_option linter.unusedVariables false
set_option maxRecDepth 4000

theorem wf_i64 {n : Int} (h : (Lit.int .i64 n).wf = true) : -9223372036854775808 ≤ n ∧ n < 9223372036854775808 := by
  simp [Lit.wf, IntKind.min, IntKind.max, IntKind.bits, IntKind.signed] at h
  omega
theorem cells5 : Tryz.prog.cellsOf 5 = 1 := by kernel_rfl
/-- numbers of a row of bytes, as the walks take them. -/
theorem bytes_row {W : World} {x : Addr} {len : Nat} {zs : List Int} (hl : len ≤ zs.length) (hcell : ∀ i, i < len → W.cell? (x.add i) = some (.int .u8 (zs.getD i 0))) (hwz : ∀ n ∈ zs, (Lit.int .u8 n).wf = true) :
    ∃ l : List Nat, l.length = len ∧ Nu.Bytes W W.heap.size (some x) l := by
  refine ⟨(zs.take len).map Int.toNat, by simp; omega, fun y hy => ?_, fun h0 => ⟨x, rfl, ?_, fun j y hj => ?_⟩⟩
  · obtain ⟨n, hn, rfl⟩ := List.mem_map.1 hy
    obtain ⟨s, rfl, hs⟩ := Ev.wf_u8 (hwz n (List.mem_of_mem_take hn))
    omega
  · have h1 : 0 < len := by simp at h0; omega
    have h2 := World.block_lt_of_cell? W _ (hcell 0 h1)
    rwa [Nu.block_add] at h2
  · have hjl : j < len := by
      have := (List.getElem?_eq_some_iff.1 hj).1
      simp at this
      omega
    rw [hcell j hjl]
    have hz : j < zs.length := by omega
    rw [List.getElem?_map, List.getElem?_take_of_lt hjl, List.getElem?_eq_getElem hz] at hj
    simp only [Option.map_some, Option.some.injEq] at hj
    obtain ⟨s, hs, _⟩ := Ev.wf_u8 (hwz zs[j] (List.getElem_mem hz))
    have e : zs.getD j 0 = (y : Int) := by
      rw [List.getD_eq_getElem?_getD, List.getElem?_eq_getElem hz, Option.getD_some]
      omega
    rw [e]
/-- a slice of bytes that came in. -/
theorem bytes_of {H : Type} {enc : TypeId × Value → H} {W : World} {a : Option Addr} {len cap : Nat} {d : DataW H} {p : List MemPlace} (h : DataW.Trod enc Tryz.prog W 0 (fun _ => true) true 22 (.slice a len cap) d p) :
    ∃ l : List Nat, BL W a l len cap := by
  obtain ⟨fuel, hf⟩ := h
  rcases open_ints Tryz.underlying22 Tryz.underlying5 cells5 hf with ⟨hcs, _⟩ | ⟨x, l, c, zs, hcs, _, hl, hm, hz, _, hcell, hwz⟩
  · simp [Value.cells] at hcs
    obtain ⟨rfl, rfl, rfl⟩ := hcs
    exact ⟨[], BL.none_ W⟩
  · simp [Value.cells] at hcs
    obtain ⟨rfl, rfl, rfl⟩ := hcs
    have hz' : zs.length = cap := by simpa using hz
    obtain ⟨l, hl1, hl2⟩ := bytes_row (len := len) (by omega) (fun i hi => hcell i (by omega)) hwz
    unfold maxLen at hm
    exact ⟨l, hl1, (fun h => by cases h), by omega, by omega, hl2⟩
end Go.Proofs.YtblgbbpbhcaodaaGreat.Ec

/- The contract of the document's reader: Text. -/
namespace Go.Proofs.YtblgbbpbhcaodaaGreat.Nu
open Go.ChangeShapes Go.WideShapes Go.ChangeAt Go.RowKit
set_option linter.unusedVariables false
set_option maxRecDepth 4000

theorem wrap_sub (n p q : Nat) (h : n = p + q) (hn : n ≤ 9223372036854775807) : IntKind.i64.wrap ((n : Int) - (p : Int)) = (q : Int) := by
  rw [IntKind.wrap_i64]; omega
theorem stop_ne {e f : Nat} (hf : f ≠ 0) : stopE e f ≠ 0 := by
  unfold stopE
  split
  · exact hf
  · assumption
/-- the bytes from one place to another, as a text. -/
theorem rtext_done {W : World} {B n c p v : Nat} {ad : Addr} {b l : List Nat} (hb : Bytes W B (some ad) b) (hn : b.length = n) (hc : n ≤ c) (hpv : p + v ≤ n) (hl : l = b.drop p) :
    (c = p → ∀ m, (convert 22 9 (.slice (some ad) 0 0)).run Tryz.prog (W.drewN m) = .ok (.string (str (l.take 0))) (W.drewN m)) ∧
    (¬ c = p → ∀ m, (convert 22 9 (.slice (some (ad.add p)) v (c - p))).run Tryz.prog (W.drewN m) = .ok (.string (str (l.take v))) (W.drewN m)) := by
  refine ⟨fun _ m => conv (l := []) (Bytes.none_ _ B _) 0 0 rfl, fun _ m => conv (B := B) ?_ v (c - p) ?_⟩
  · rw [hl]; exact ((hb.below (below_drewN _ W m)).drop p).take v
  · rw [hl, List.length_take, List.length_drop]; omega
theorem rtext_end {W : World} {h B n c p v : Nat} {ad : Addr} {b l : List Nat} (h1 : At W h 28 (#[.slice (some ad) n c, .int .i64 (p : Int), .int .i64 ((0 : Nat) : Int)].setIfInBounds 1 (.int .i64 ((p : Int) + (v : Int)))))
    (hb : Bytes W B (some ad) b) (hn : b.length = n) (h4 : n ≤ 9223372036854775807) (hc : n ≤ c) (hpv : p + v ≤ n) (hl : l = b.drop p) : RR W h B (some ad) n c b (l.drop v) 0 :=
  ⟨p + v, by simpa using h1, hb, hn, h4, hc, fun h => (by cases h), hpv, fun _ => by rw [hl, List.drop_drop], fun h => absurd rfl h⟩
/-- when nothing was read, nothing is told. -/
theorem num_bad {w : World} {h B n c e : Nat} {A : Option Addr} {b l : List Nat} (k : RR w h B A n c b l e) (he : stopE e (numE l) ≠ 0) : numV l = 0 ∧ numL l = [] := by
  by_cases h0 : e = 0
  · subst h0
    rw [stop_zero] at he
    exact ⟨(numL_bad he).2, (numL_bad he).1⟩
  · rw [k.nil_of h0]; exact ⟨rfl, rfl⟩
theorem num_good {w : World} {h B n c e : Nat} {A : Option Addr} {b l : List Nat} (k : RR w h B A n c b l e) (he : stopE e (numE l) = 0) : ∃ ad, A = some ad := by
  obtain ⟨p, h1, h2, h3, h4, h5, h6, h7, h8, h9⟩ := k
  by_cases h0 : e = 0
  · subst h0
    rw [stop_zero] at he
    have hl := h8 rfl
    cases A with
    | some ad => exact ⟨ad, rfl⟩
    | none =>
      have hc := h6 rfl
      have hb : b = [] := List.eq_nil_of_length_eq_zero (by omega)
      rw [hl, hb, List.drop_nil] at he
      cases he
  · rw [stop_some h0] at he; exact absurd he h0

set_option maxHeartbeats 2000000 in
theorem rtext_any (w : World) (h B : Nat) (A : Option Addr) (n c : Nat) (b l : List Nat) (e : Nat) (m : Int) (k : RR w h B A n c b l e) (hB : B ≤ h) (hc : c ≤ 9223372036854775807) (m0 : -9223372036854775808 ≤ m) (m1 : m ≤ 9223372036854775807) :
    Calls Tryz.prog 33 #[.pointer (some ⟨h, 0, none⟩), .int .i64 m] w (RPost w h B A n c b (.string (str (textV m l))) (textL m l) (textE m l e)) := by
  have HP := Lib.hid k
  clear k
  have hs := Lib.hid HP.out.small
  have hv := numV_lt hs.out
  have hbad := Lib.hid (num_bad HP.out)
  have hgood := Lib.hid (num_good HP.out)
  by_cases hm : m.toNat < numV l
  · have v1 : Hid (textV m l = []) := if_pos hm
    have v2 : Hid (textL m l = []) := if_pos hm
    have v3 : Hid (textE m l e = stopE (stopE e (numE l)) 3) := if_pos hm
    have hne : (((stopE (stopE e (numE l)) 3 : Nat) : Int) == 0) = false := by
      rw [beq_eq_false_iff_ne]; have := stop_ne (e := stopE e (numE l)) (show 3 ≠ 0 by decide); omega
    have hnb : (((stopE (stopE e (numE l)) 3 : Nat) : Int) != 0) = true := by
      rw [bne_iff_ne]; have := stop_ne (e := stopE e (numE l)) (show 3 ≠ 0 by decide); omega
    have hnd : decide (m < 0) = true ∨ decide (m < 0) = false := by cases decide (m < 0) <;> simp
    go_enter Tryz.func33, Tryz.ntmps33
    go_wp2_with fail
    refine (rnum_any w h B A n c b l e HP.out hB).mono ?_
    rintro r w' ⟨rfl, hp, hg⟩
    have HP2 := Lib.hid hp
    have HG := Lib.hid hg
    clear hp hg
    generalize numV l = v at *
    by_cases hm0 : m < 0
    · have d : decide (0 < v) = true := decide_eq_true (by omega)
      clear hm hnd
      go_wp2_with fail
      refine (rfail_any w' h B A n c b _ _ 3 HP2.out hB (by decide)).mono ?_
      rintro r w2 ⟨rfl, hp, hg⟩
      have c2 := hp.bad
      have HP3 := Lib.hid hp
      have HG3 := Lib.hid hg
      clear hp hg
      generalize stopE (stopE e (numE l)) 3 = e2 at *
      go_wp2_with fail
      go_quiet (fail)
      go_wp2
      go_ret
      exact ⟨by rw [v1.out]; rfl, by rw [v2.out, v3.out]; exact HP3.out.drewN _, (HG.out.trans HG3.out).trans (turn_drewN _ _ _)⟩
    · obtain ⟨j, rfl⟩ := Int.eq_ofNat_of_zero_le (by omega : 0 ≤ m)
      rw [Int.toNat_natCast] at hm
      have d : decide (j < v) = true := decide_eq_true hm
      have d2 : ¬ (j : Int) < 0 := hm0
      clear hnd
      go_wp2_with fail
      refine (rfail_any w' h B A n c b _ _ 3 HP2.out hB (by decide)).mono ?_
      rintro r w2 ⟨rfl, hp, hg⟩
      have c2 := hp.bad
      have HP3 := Lib.hid hp
      have HG3 := Lib.hid hg
      clear hp hg
      generalize stopE (stopE e (numE l)) 3 = e2 at *
      go_wp2_with fail
      go_quiet (fail)
      go_wp2
      go_ret
      exact ⟨by rw [v1.out]; rfl, by rw [v2.out, v3.out]; exact HP3.out.drewN _, (HG.out.trans HG3.out).trans (turn_drewN _ _ _)⟩
  · have v1 : Hid (textV m l = takeV (numV l) (numL l)) := if_neg hm
    have v2 : Hid (textL m l = takeL (numV l) (numL l)) := if_neg hm
    have v3 : Hid (textE m l e = takeE (numV l) (numL l) (stopE e (numE l))) := if_neg hm
    go_enter Tryz.func33, Tryz.ntmps33
    go_wp2_with fail
    refine (rnum_any w h B A n c b l e HP.out hB).mono ?_
    rintro r w' ⟨rfl, hp, hg⟩
    have HP2 := Lib.hid hp
    have HG := Lib.hid hg
    have c2 := hp.bad
    clear hp hg
    generalize numV l = v at *
    generalize numL l = l1 at *
    generalize stopE e (numE l) = e1 at *
    have hd : Hid ((m < 0 ∧ decide (0 < v) = false) ∨ ∃ j : Nat, m = j ∧ decide (j < v) = false) := by
      by_cases hm0 : m < 0
      · exact .inl ⟨hm0, decide_eq_false (by omega)⟩
      · obtain ⟨j, rfl⟩ := Int.eq_ofNat_of_zero_le (by omega : 0 ≤ m)
        rw [Int.toNat_natCast] at hm
        exact .inr ⟨j, rfl, decide_eq_false hm⟩
    clear hm
    by_cases he1 : e1 = 0
    · subst he1
      obtain ⟨ad, rfl⟩ := hgood.out rfl
      obtain ⟨p, h1, h2, h3, h4, h5, h6, h7, h8, h9⟩ := HP2.out
      have c0 := h1.cell 0
      have c1 := h1.cell 1
      have f1 := h1.frozen 1
      simp at c0 c1
      obtain ⟨q, hq⟩ : ∃ q, n = p + q := ⟨n - p, by omega⟩
      have hl1 := h8 rfl
      have hlen : l1.length = q := by rw [hl1, List.length_drop]; omega
      have s1 : (n : Int) - (p : Int) = (q : Int) := by omega
      have s2 := wrap_sub n p q hq h4
      have HL := Lib.hid hlen
      have HL1 := Lib.hid hl1
      have H1 := Lib.hid h1
      have H2 := Lib.hid h2
      have H3 := Lib.hid h3
      have HQ := Lib.hid hq
      have hqn : q ≤ 9223372036854775807 := by omega
      clear h1 h2 h3 h6 h8 h9 hl1 hlen hq
      by_cases hvq : v ≤ q
      · have dq : decide (q < v) = false := decide_eq_false (by omega)
        have hpq : p + v ≤ n := by have := HQ.out; omega
        have t1 : Hid (takeV v l1 = l1.take v) := if_pos (by rw [HL.out]; exact hvq)
        have t2 : Hid (takeL v l1 = l1.drop v) := if_pos (by rw [HL.out]; exact hvq)
        have t3 : Hid (takeE v l1 0 = 0) := if_pos (by rw [HL.out]; exact hvq)
        rcases hd.out with ⟨hm0, d⟩ | ⟨j, rfl, d⟩
        · go_wp2_with fail
          go_quiet (fail)
          go_wp2_with fail
          have HA := Lib.hid ((show At (w'.drewN nq) h 28 _ from H1.out).set 1 (.int .i64 ((p : Int) + (v : Int))))
          have HB2 := Lib.hid ((H2.out.below (below_drewN _ w' nq)).below ((Below.refl B _).setCell (p := ⟨h, 1, none⟩) hB (.int .i64 ((p : Int) + (v : Int)))))
          have HT := Lib.hid ((turn_drewN w' nq (some h)).trans (turn_set _ h 1 (.int .i64 ((p : Int) + (v : Int)))))
          generalize (w'.drewN nq).setCell ⟨h, 1, none⟩ (.int .i64 ((p : Int) + (v : Int))) = W at *
          have d0 := HA.out.cell 0
          have d1 := HA.out.cell 1
          simp at d0 d1
          have s3 : (0 : Int) ≤ (p : Int) := by omega
          have s4 : (p : Int) ≤ (p : Int) + (v : Int) := by omega
          have s5 : (p : Int) + (v : Int) ≤ (c : Int) := by omega
          have s6 : ((p : Int) + (v : Int)).toNat - p = v := by omega
          have s7 : (0 : Int) ≤ (p : Int) + (v : Int) := by omega
          have s8 : ((p : Int) + (v : Int)).toNat = p + v := by omega
          have HV := Lib.hid (rtext_done HB2.out H3.out h5 hpq HL1.out)
          clear c0 c1 c2 f1
          by_cases hcp : c = p
          · obtain rfl : v = 0 := by omega
            have hcv := HV.out.1 hcp
            subst hcp
            go_quiet (fail)
            go_wp2
            go_ret
            exact ⟨by rw [v1.out, t1.out]; rfl, by rw [v2.out, v3.out, t2.out, t3.out]; exact (rtext_end HA.out HB2.out H3.out h4 h5 hpq HL1.out).drewN _, HG.out.trans (HT.out.trans (turn_drewN _ _ _))⟩
          · have hcv := HV.out.2 hcp
            go_quiet (fail)
            go_wp2
            go_ret
            exact ⟨by rw [v1.out, t1.out]; rfl, by rw [v2.out, v3.out, t2.out, t3.out]; exact (rtext_end HA.out HB2.out H3.out h4 h5 hpq HL1.out).drewN _, HG.out.trans (HT.out.trans (turn_drewN _ _ _))⟩
        · go_wp2_with fail
          go_quiet (fail)
          go_wp2_with fail
          have HA := Lib.hid ((show At (w'.drewN nq) h 28 _ from H1.out).set 1 (.int .i64 ((p : Int) + (v : Int))))
          have HB2 := Lib.hid ((H2.out.below (below_drewN _ w' nq)).below ((Below.refl B _).setCell (p := ⟨h, 1, none⟩) hB (.int .i64 ((p : Int) + (v : Int)))))
          have HT := Lib.hid ((turn_drewN w' nq (some h)).trans (turn_set _ h 1 (.int .i64 ((p : Int) + (v : Int)))))
          generalize (w'.drewN nq).setCell ⟨h, 1, none⟩ (.int .i64 ((p : Int) + (v : Int))) = W at *
          have d0 := HA.out.cell 0
          have d1 := HA.out.cell 1
          simp at d0 d1
          have s3 : (0 : Int) ≤ (p : Int) := by omega
          have s4 : (p : Int) ≤ (p : Int) + (v : Int) := by omega
          have s5 : (p : Int) + (v : Int) ≤ (c : Int) := by omega
          have s6 : ((p : Int) + (v : Int)).toNat - p = v := by omega
          have s7 : (0 : Int) ≤ (p : Int) + (v : Int) := by omega
          have s8 : ((p : Int) + (v : Int)).toNat = p + v := by omega
          have HV := Lib.hid (rtext_done HB2.out H3.out h5 hpq HL1.out)
          clear c0 c1 c2 f1
          by_cases hcp : c = p
          · obtain rfl : v = 0 := by omega
            have hcv := HV.out.1 hcp
            subst hcp
            go_quiet (fail)
            go_wp2
            go_ret
            exact ⟨by rw [v1.out, t1.out]; rfl, by rw [v2.out, v3.out, t2.out, t3.out]; exact (rtext_end HA.out HB2.out H3.out h4 h5 hpq HL1.out).drewN _, HG.out.trans (HT.out.trans (turn_drewN _ _ _))⟩
          · have hcv := HV.out.2 hcp
            go_quiet (fail)
            go_wp2
            go_ret
            exact ⟨by rw [v1.out, t1.out]; rfl, by rw [v2.out, v3.out, t2.out, t3.out]; exact (rtext_end HA.out HB2.out H3.out h4 h5 hpq HL1.out).drewN _, HG.out.trans (HT.out.trans (turn_drewN _ _ _))⟩
      · have dq : decide (q < v) = true := decide_eq_true (by omega)
        have t1 : Hid (takeV v l1 = []) := if_neg (by rw [HL.out]; exact hvq)
        have t2 : Hid (takeL v l1 = []) := if_neg (by rw [HL.out]; exact hvq)
        have t3 : Hid (takeE v l1 0 = 2) := if_neg (by rw [HL.out]; exact hvq)
        rcases hd.out with ⟨hm0, d⟩ | ⟨j, rfl, d⟩
        · go_wp2_with fail
          go_quiet (fail)
          go_wp2_with fail
          refine (rfail_any _ h B (some ad) n c b _ _ 2 (HP2.out.drewN _) hB (by decide)).mono ?_
          rintro r w2 ⟨rfl, hp, hg⟩
          have c2' := hp.bad
          rw [stop_zero] at c2'
          have HP3 := Lib.hid hp
          have HG3 := Lib.hid hg
          clear hp hg c0 c1 c2 f1
          go_wp2
          go_ret
          exact ⟨by rw [v1.out, t1.out]; rfl, by rw [v2.out, v3.out, t2.out, t3.out]; exact HP3.out, HG.out.trans ((turn_drewN _ _ _).trans HG3.out)⟩
        · go_wp2_with fail
          go_quiet (fail)
          go_wp2_with fail
          refine (rfail_any _ h B (some ad) n c b _ _ 2 (HP2.out.drewN _) hB (by decide)).mono ?_
          rintro r w2 ⟨rfl, hp, hg⟩
          have c2' := hp.bad
          rw [stop_zero] at c2'
          have HP3 := Lib.hid hp
          have HG3 := Lib.hid hg
          clear hp hg c0 c1 c2 f1
          go_wp2
          go_ret
          exact ⟨by rw [v1.out, t1.out]; rfl, by rw [v2.out, v3.out, t2.out, t3.out]; exact HP3.out, HG.out.trans ((turn_drewN _ _ _).trans HG3.out)⟩
    · obtain ⟨rfl, rfl⟩ := hbad.out he1
      have hne : ((e1 : Int) == 0) = false := by rw [beq_eq_false_iff_ne]; omega
      have hnb : ((e1 : Int) != 0) = true := by rw [bne_iff_ne]; omega
      rcases hd.out with ⟨hm0, d⟩ | ⟨j, rfl, d⟩
      · go_wp2_with fail
        go_quiet (fail)
        go_wp2
        go_ret
        exact ⟨by rw [v1.out]; rfl, by rw [v2.out, v3.out]; exact HP2.out.drewN _, HG.out.trans (turn_drewN _ _ _)⟩
      · go_wp2_with fail
        go_quiet (fail)
        go_wp2
        go_ret
        exact ⟨by rw [v1.out]; rfl, by rw [v2.out, v3.out]; exact HP2.out.drewN _, HG.out.trans (turn_drewN _ _ _)⟩
end Go.Proofs.YtblgbbpbhcaodaaGreat.Nu

/- The contract of the document's Get of layer ecode. -/
namespace Go.Proofs.YtblgbbpbhcaodaaGreat.Ec
open Go.ChangeShapes Go.WideShapes Go.ChangeAt Go.RowKit Go.Proofs.YtblgbbpbhcaodaaGreat.Dc
set_option linter.unusedVariables false
set_option maxRecDepth 4000

/-- the document's reader, at a state. -/
def RD (h B : Nat) (A : Option Addr) (n c : Nat) (b : List Nat) (V : World) (s : St) : Prop := Nu.RR V h B A n c b s.1 s.2
theorem rd_rdr {h B n c : Nat} {A : Option Addr} {b : List Nat} (hB : B ≤ h) : Rdr (RD h B A n c b) h B :=
  ⟨hB, fun k => Nu.RR.lt k, fun k hg hne hr => Nu.RR.kept k hg (Nat.le_of_lt (Nat.lt_of_le_of_lt hB (Nu.RR.lt k))) hne hr⟩
theorem rdot_st (w : World) (h B : Nat) (A : Option Addr) (n c : Nat) (b : List Nat) (s : St) (k : RD h B A n c b w s) (hB : B ≤ h) :
    Calls Tryz.prog 31 #[.pointer (some ⟨h, 0, none⟩)] w fun r V => r = .returned (dval (dotR s).1) ∧ RD h B A n c b V (dotR s).2 ∧ w.grownBy V (some h) := rdot_any w h B A n c b s.1 s.2 k hB
theorem rbyte_st (w : World) (h B : Nat) (A : Option Addr) (n c : Nat) (b : List Nat) (s : St) (k : RD h B A n c b w s) (hB : B ≤ h) :
    Calls Tryz.prog 32 #[.pointer (some ⟨h, 0, none⟩)] w fun r V => r = .returned (.int .u8 ((byteN s : Nat) : Int)) ∧ RD h B A n c b V (byteS s) ∧ w.grownBy V (some h) := Nu.rbyte_m w h B A n c b s.1 s.2 k hB
theorem rnum_st (w : World) (h B : Nat) (A : Option Addr) (n c : Nat) (b : List Nat) (s : St) (k : RD h B A n c b w s) (hB : B ≤ h) :
    Calls Tryz.prog 23 #[.pointer (some ⟨h, 0, none⟩)] w fun r V => r = .returned (.int .u64 ((numN s : Nat) : Int)) ∧ RD h B A n c b V (numS s) ∧ w.grownBy V (some h) := Nu.rnum_any w h B A n c b s.1 s.2 k hB
theorem rtext_st (w : World) (h B : Nat) (A : Option Addr) (n c : Nat) (b : List Nat) (s : St) (k : RD h B A n c b w s) (hB : B ≤ h) (hc : c ≤ 9223372036854775807) :
    Calls Tryz.prog 33 #[.pointer (some ⟨h, 0, none⟩), .int .i64 60] w fun r V => r = .returned (.string (textN 60 s)) ∧ RD h B A n c b V (textS 60 s) ∧ w.grownBy V (some h) := Nu.rtext_any w h B A n c b s.1 s.2 60 k hB hc (by decide) (by decide)
theorem rfail_st (w : World) (h B : Nat) (A : Option Addr) (n c : Nat) (b : List Nat) (s : St) (f : Nat) (k : RD h B A n c b w s) (hB : B ≤ h) (hf : f ≠ 0) :
    Calls Tryz.prog 24 #[.pointer (some ⟨h, 0, none⟩), .int .i64 (f : Int)] w fun r V => r = .returned (.tuple #[]) ∧ RD h B A n c b V (failS f s) ∧ w.grownBy V (some h) := Nu.rfail_any w h B A n c b s.1 s.2 f k hB hf
theorem dk_dl {w V : World} {h B n c m c6 : Nat} {A A6 : Option Addr} {b : List Nat} {o : List Dot} {s : St} (k : DK w h B A n c b V A6 m c6 o s) : DL w.heap.size V A6 o m c6 := by
  obtain ⟨h1, h2, h3⟩ := Dt.own_len k.own
  exact ⟨k.len, h3, h1, h2, Dt.dots_own k.own k.fit, fun ad e => by subst e; exact (k.own.lt ad.block rfl).1⟩
theorem rdots_st (w : World) (h B : Nat) (A : Option Addr) (n c : Nat) (b : List Nat) (s : St) (k : RD h B A n c b w s) (hB : B ≤ h) (hl : s.1.length ≤ 1099511627776) :
    Calls Tryz.prog 34 #[.pointer (some ⟨h, 0, none⟩), .int .i64 256] w fun r V => ∃ A' m c', r = .returned (.slice A' m c') ∧ DL w.heap.size V A' (dotsR 256 s).1 m c' ∧ RD h B A n c b V (dotsR 256 s).2 ∧ w.grownBy V (some h) := by
  refine (rdots_any w h B A n c b s.1 s.2 256 k hB hl (by decide) (by decide)).mono ?_
  rintro r V ⟨A', m, c', rfl, hk⟩
  exact ⟨A', m, c', rfl, dk_dl hk, hk.rr, hk.gr⟩

set_option maxHeartbeats 16000000 in
theorem rget_any (w : World) (h B : Nat) (A : Option Addr) (n c : Nat) (b : List Nat) (s : St) (k : RD h B A n c b w s) (hB : B ≤ h) (hc : c ≤ 9223372036854775807) (hl : s.1.length ≤ 1099511627776) :
    Calls Tryz.prog 15 #[.pointer (some ⟨h, 0, none⟩)] w (EvtGot (RD h B A n c b) w h (evtR s).1 (evtR s).2) := by
  have r0 := rd_rdr (A := A) (n := n) (c := c) (b := b) hB
  have hh : h < w.heap.size := r0.lt k
  have K0 := Lib.hid (r0.new k zbox)
  have G0 := Lib.hid (grown_new (Nu.turn_refl w (some h)) zbox)
  have R0 := Lib.hid (Nu.At.new w 42 zcells)
  have hR : evtR s = if (e6 s).2 = 0 ∧ Ev.goodE (evtN s) = true then (evtN s, e6 s) else (evtZ, failS 4 (e6 s)) := rfl
  have hN : evtN s = ⟨(dotR s).1, byteN (e1 s), numN (e2 s), byteN (e3 s), textN 60 (e4 s), (dotsR 256 (e5 s)).1⟩ := rfl
  have hfit := evtN_fits (s := s) (Nu.RR.small k)
  have hkil := evtN_kills (s := s) (Nu.RR.small k)
  have hl5 : (e5 s).1.length ≤ 1099511627776 := Nat.le_trans (e5_len s) hl
  have q1 : (dotR s).2 = e1 s := rfl
  have q2 : byteS (e1 s) = e2 s := rfl
  have q3 : numS (e2 s) = e3 s := rfl
  have q4 : byteS (e3 s) = e4 s := rfl
  have q5 : textS 60 (e4 s) = e5 s := rfl
  have q6 : (dotsR 256 (e5 s)).2 = e6 s := rfl
  have C1 := rdot_st (w.alloc zbox) h B A n c b s K0.out hB
  have hsnd := e6_sound (s := s) (fun he => Nu.RR.nil_of k he)
  rw [q1] at C1
  generalize evtR s = D at *
  generalize e6 s = s6 at *
  generalize e5 s = s5 at *
  generalize e4 s = s4 at *
  generalize e3 s = s3 at *
  generalize e2 s = s2 at *
  generalize e1 s = s1 at *
  generalize evtN s = x at *
  generalize (dotR s).1 = d at *
  obtain ⟨kd, hkd⟩ : ∃ kd, byteN s1 = kd := ⟨_, rfl⟩
  obtain ⟨ci, hci⟩ : ∃ ci, numN s2 = ci := ⟨_, rfl⟩
  obtain ⟨fl, hfl⟩ : ∃ fl, byteN s3 = fl := ⟨_, rfl⟩
  obtain ⟨tx, htx⟩ : ∃ tx, textN 60 s4 = tx := ⟨_, rfl⟩
  obtain ⟨ks, hks⟩ : ∃ ks, (dotsR 256 s5).1 = ks := ⟨_, rfl⟩
  rw [hkd, hci, hfl, htx, hks] at hN
  have V2 := Lib.hid hkd
  have V3 := Lib.hid hci
  have V4 := Lib.hid hfl
  have V5 := Lib.hid htx
  have V6 := Lib.hid hks
  have hk8 : kd < 256 := by have h1 := hfit.kind; rw [hN] at h1; exact h1
  have hf8 : fl < 256 := by have h1 := hfit.fld; rw [hN] at h1; exact h1
  have HR := Lib.hid hR
  have HF := Lib.hid hfit
  have HKI := Lib.hid hkil
  have HSN := Lib.hid hsnd
  have HL5 := Lib.hid hl5
  have P2 := Lib.hid q2
  have P3 := Lib.hid q3
  have P4 := Lib.hid q4
  have P5 := Lib.hid q5
  have P6 := Lib.hid q6
  have HX := Lib.hid hN
  clear hR hfit hkil hsnd hl5 q1 q2 q3 q4 q5 q6 hN k hl hkd hci hfl htx hks
  go_enter Tryz.func15, Tryz.ntmps15
  go_wp2_with fail
  refine C1.mono ?_
  rintro r w1 ⟨rfl, k1, g1⟩
  have hw1 : w.heap.size < w1.heap.size := by have := g1.size; rw [alloc_size] at this; omega
  have E1 : Hid (GK (RD h B A n c b) w h w1.heap.size #[.int .u16 (d.1 : Int), .int .u64 (d.2 : Int), .int .u8 0, .int .u64 0, .int .u8 0, .string ⟨#[]⟩, .slice none 0 0] s1 (w1.alloc (.cells #[.int .u16 (d.1 : Int), .int .u64 (d.2 : Int), .int .u8 0, .int .u64 0, .int .u8 0, .string ⟨#[]⟩, .slice none 0 0] 42))) := Lib.hid
    ⟨r0.new k1 _, grown_new (G0.out.trans g1) _, (R0.out.kept g1 (fun e => by cases e; omega)).kept (Nu.turn_below (below_new w1 _) none) (by simp), Nu.At.new w1 _ _⟩
  clear k1 g1 K0 G0 R0 C1
  have C2 := rbyte_st _ h B A n c b s1 E1.out.rr hB
  rw [P2.out, V2.out] at C2
  go_wp2_with fail
  generalize w1.alloc (.cells #[.int .u16 (d.1 : Int), .int .u64 (d.2 : Int), .int .u8 0, .int .u64 0, .int .u8 0, .string ⟨#[]⟩, .slice none 0 0] 42) = v1 at *
  generalize w1.heap.size = g at *
  refine C2.mono ?_
  rintro r u2 ⟨rfl, k2, g2⟩
  have D2 := Lib.hid (E1.out.read hh hw1 k2 g2)
  have b2 := D2.out.box.cell 2
  have t2 := D2.out.box.frozen 2
  simp at b2
  have E2 : Hid (GK (RD h B A n c b) w h g #[.int .u16 (d.1 : Int), .int .u64 (d.2 : Int), .int .u8 (kd : Int), .int .u64 0, .int .u8 0, .string ⟨#[]⟩, .slice none 0 0] s2 (u2.setCell ⟨g, 2, none⟩ (.int .u8 (kd : Int)))) := Lib.hid (D2.out.put r0 hh hw1 2 (.int .u8 (kd : Int)))
  have C3 := rnum_st _ h B A n c b s2 E2.out.rr hB
  rw [P3.out, V3.out] at C3
  clear k2 g2 C2 D2 E1
  go_wp2_with fail
  generalize u2.setCell ⟨g, 2, none⟩ (.int .u8 (kd : Int)) = v2 at *
  refine C3.mono ?_
  rintro r u3 ⟨rfl, k3, g3⟩
  have D3 := Lib.hid (E2.out.read hh hw1 k3 g3)
  have b3 := D3.out.box.cell 3
  have t3 := D3.out.box.frozen 3
  simp at b3
  have E3 : Hid (GK (RD h B A n c b) w h g #[.int .u16 (d.1 : Int), .int .u64 (d.2 : Int), .int .u8 (kd : Int), .int .u64 (ci : Int), .int .u8 0, .string ⟨#[]⟩, .slice none 0 0] s3 (u3.setCell ⟨g, 3, none⟩ (.int .u64 (ci : Int)))) := Lib.hid (D3.out.put r0 hh hw1 3 (.int .u64 (ci : Int)))
  have C4 := rbyte_st _ h B A n c b s3 E3.out.rr hB
  rw [P4.out, V4.out] at C4
  clear k3 g3 C3 D3 E2
  go_wp2_with fail
  generalize u3.setCell ⟨g, 3, none⟩ (.int .u64 (ci : Int)) = v3 at *
  refine C4.mono ?_
  rintro r u4 ⟨rfl, k4, g4⟩
  have D4 := Lib.hid (E3.out.read hh hw1 k4 g4)
  have b4 := D4.out.box.cell 4
  have t4 := D4.out.box.frozen 4
  simp at b4
  have E4 : Hid (GK (RD h B A n c b) w h g #[.int .u16 (d.1 : Int), .int .u64 (d.2 : Int), .int .u8 (kd : Int), .int .u64 (ci : Int), .int .u8 (fl : Int), .string ⟨#[]⟩, .slice none 0 0] s4 (u4.setCell ⟨g, 4, none⟩ (.int .u8 (fl : Int)))) := Lib.hid (D4.out.put r0 hh hw1 4 (.int .u8 (fl : Int)))
  have C5 := rtext_st _ h B A n c b s4 E4.out.rr hB hc
  rw [P5.out, V5.out] at C5
  clear k4 g4 C4 D4 E3
  go_wp2_with fail
  generalize u4.setCell ⟨g, 4, none⟩ (.int .u8 (fl : Int)) = v4 at *
  refine C5.mono ?_
  rintro r u5 ⟨rfl, k5, g5⟩
  have D5 := Lib.hid (E4.out.read hh hw1 k5 g5)
  have b5 := D5.out.box.cell 5
  have t5 := D5.out.box.frozen 5
  simp at b5
  have E5 : Hid (GK (RD h B A n c b) w h g #[.int .u16 (d.1 : Int), .int .u64 (d.2 : Int), .int .u8 (kd : Int), .int .u64 (ci : Int), .int .u8 (fl : Int), .string tx, .slice none 0 0] s5 (u5.setCell ⟨g, 5, none⟩ (.string tx))) := Lib.hid (D5.out.put r0 hh hw1 5 (.string tx))
  have C6 := rdots_st _ h B A n c b s5 E5.out.rr hB HL5.out
  rw [P6.out, V6.out] at C6
  clear k5 g5 C5 D5 E4
  go_wp2_with fail
  generalize u5.setCell ⟨g, 5, none⟩ (.string tx) = v5 at *
  refine C6.mono ?_
  rintro r u6 ⟨A6, m6, c6, rfl, d6, k6, g6⟩
  have hgv : g < v5.heap.size := E5.out.box.lt
  have D6 := Lib.hid (E5.out.read hh hw1 k6 g6)
  have b6 := D6.out.box.cell 6
  have t6 := D6.out.box.frozen 6
  simp at b6
  have E6 : Hid (GK (RD h B A n c b) w h g #[.int .u16 (d.1 : Int), .int .u64 (d.2 : Int), .int .u8 (kd : Int), .int .u64 (ci : Int), .int .u8 (fl : Int), .string tx, .slice A6 m6 c6] s6 (u6.setCell ⟨g, 6, none⟩ (.slice A6 m6 c6))) := Lib.hid (D6.out.put r0 hh hw1 6 (.slice A6 m6 c6))
  have hxx := HX.out
  subst hxx
  have O6 := Lib.hid ((eo_made (w := v5) HF.out d6 HKI.out (Nat.le_refl _)).turn (Nu.turn_set u6 g 6 (.slice A6 m6 c6)) (fun q e => by cases e; exact hgv))
  have hlow : Hid (w.heap.size + 1 ≤ v5.heap.size) := Lib.hid (by omega)
  have GD := Ev.rgood_any _ _ _ O6.out.is
  have a2 : (u6.setCell ⟨g, 6, none⟩ (.slice A6 m6 c6)).cell? ⟨h, 2, none⟩ = some (.int .i64 (s6.2 : Int)) := Nu.RR.bad E6.out.rr
  have e0 := E6.out.box.cell 0
  have e1 := E6.out.box.cell 1
  have e2 := E6.out.box.cell 2
  have e3 := E6.out.box.cell 3
  have e4 := E6.out.box.cell 4
  have e5 := E6.out.box.cell 5
  have e6 := E6.out.box.cell 6
  simp at e0 e1 e2 e3 e4 e5 e6
  clear C6 d6 k6 g6 D6 E5 HF HKI HX
  go_upto_region 7 with fail
  generalize u6.setCell ⟨g, 6, none⟩ (.slice A6 m6 c6) = v6 at *
  by_cases he : s6.2 = 0
  · have hb0 : (((s6.2 : Nat) : Int) == 0) = true := by rw [he]; rfl
    have hb1 : (((s6.2 : Nat) : Int) != 0) = false := by rw [he]; rfl
    cases hgd : Ev.goodE ⟨d, kd, ci, fl, tx, ks⟩ with
    | true =>
      rw [hgd] at GD
      have HD : Hid (D = (⟨d, kd, ci, fl, tx, ks⟩, s6)) := Lib.hid (by rw [HR.out]; exact if_pos ⟨he, hgd⟩)
      go_wp2_with fail
      refine GD.mono ?_
      rintro r v7 ⟨rfl, hb7⟩
      have E7 := Lib.hid (E6.out.below r0 hb7)
      have O7 := Lib.hid (O6.out.below hb7)
      have a7 : v7.cell? ⟨h, 2, none⟩ = some (.int .i64 (s6.2 : Int)) := Nu.RR.bad E7.out.rr
      have x0 := E7.out.box.cell 0
      have x1 := E7.out.box.cell 1
      have x2 := E7.out.box.cell 2
      have x3 := E7.out.box.cell 3
      have x4 := E7.out.box.cell 4
      have x5 := E7.out.box.cell 5
      have x6 := E7.out.box.cell 6
      simp at x0 x1 x2 x3 x4 x5 x6
      have Q1 := E7.out.res.set 0 (.int .u16 (d.1 : Int))
      have Q2 := Q1.set 1 (.int .u64 (d.2 : Int))
      have Q3 := Q2.set 2 (.int .u8 (kd : Int))
      have Q4 := Q3.set 3 (.int .u64 (ci : Int))
      have Q5 := Q4.set 4 (.int .u8 (fl : Int))
      have Q6 := Q5.set 5 (.string tx)
      have Q7 := Q6.set 6 (.slice A6 m6 c6)
      have z0 := E7.out.res.cell 0
      have f0 := E7.out.res.frozen 0
      have z1 := Q1.cell 1
      have f1 := Q1.frozen 1
      have z2 := Q2.cell 2
      have f2 := Q2.frozen 2
      have z3 := Q3.cell 3
      have f3 := Q3.frozen 3
      have z4 := Q4.cell 4
      have f4 := Q4.frozen 4
      have z5 := Q5.cell 5
      have f5 := Q5.frozen 5
      have z6 := Q6.cell 6
      have f6 := Q6.frozen 6
      have y0 := Q7.cell 0
      have y1 := Q7.cell 1
      have y2 := Q7.cell 2
      have y3 := Q7.cell 3
      have y4 := Q7.cell 4
      have y5 := Q7.cell 5
      have y6 := Q7.cell 6
      simp at z0 z1 z2 z3 z4 z5 z6 y0 y1 y2 y3 y4 y5 y6
      clear Q1 Q2 Q3 Q4 Q5 Q6 Q7
      have HG := Lib.hid (E7.out.done r0 hh (O7.out.less hlow.out) (.int .u16 (d.1 : Int)) (.int .u64 (d.2 : Int)) (.int .u8 (kd : Int)) (.int .u64 (ci : Int)) (.int .u8 (fl : Int)) (.string tx) (.slice A6 m6 c6))
      clear hb7 GD a2 e0 e1 e2 e3 e4 e5 e6 E6 O6
      go_wp2
      refine bodyPost_ret (v := Ev.EV.val ⟨d.1, d.2, kd, ci, fl, tx, A6, m6, c6⟩) ?_ rfl ?_
      · simp [results, Tryz.f15, go_sem, y0, y1, y2, y3, y4, y5, y6]
      · rw [HD.out]
        exact HG.out
    | false =>
      rw [hgd] at GD
      have HD : Hid (D = (evtZ, failS 4 s6)) := Lib.hid (by rw [HR.out]; exact if_neg (fun h2 => by rw [hgd] at h2; cases h2.2))
      go_wp2_with fail
      refine GD.mono ?_
      rintro r v7 ⟨rfl, hb7⟩
      have E7 := Lib.hid (E6.out.below r0 hb7)
      have CF := rfail_st v7 h B A n c b s6 4 E7.out.rr hB (by decide)
      have hne : (failS 4 s6).2 ≠ 0 := stop_ne (by decide)
      generalize failS 4 s6 = s8 at *
      clear hb7 GD a2 e0 e1 e2 e3 e4 e5 e6 E6 O6
      go_wp2_with fail
      refine CF.mono ?_
      rintro r v8 ⟨rfl, k8, g8⟩
      have E8 := Lib.hid (E7.out.read hh hw1 k8 g8)
      have a8 : v8.cell? ⟨h, 2, none⟩ = some (.int .i64 (s8.2 : Int)) := Nu.RR.bad k8
      have hi0 : (((s8.2 : Nat) : Int) == 0) = false := by rw [beq_eq_false_iff_ne]; omega
      have hi1 : (((s8.2 : Nat) : Int) != 0) = true := by rw [bne, hi0]; rfl
      have Q1 := E8.out.res.set 0 (.int .u16 0)
      have Q2 := Q1.set 1 (.int .u64 0)
      have Q3 := Q2.set 2 (.int .u8 0)
      have Q4 := Q3.set 3 (.int .u64 0)
      have Q5 := Q4.set 4 (.int .u8 0)
      have Q6 := Q5.set 5 (.string ⟨#[]⟩)
      have Q7 := Q6.set 6 (.slice none 0 0)
      have z0 := E8.out.res.cell 0
      have f0 := E8.out.res.frozen 0
      have z1 := Q1.cell 1
      have f1 := Q1.frozen 1
      have z2 := Q2.cell 2
      have f2 := Q2.frozen 2
      have z3 := Q3.cell 3
      have f3 := Q3.frozen 3
      have z4 := Q4.cell 4
      have f4 := Q4.frozen 4
      have z5 := Q5.cell 5
      have f5 := Q5.frozen 5
      have z6 := Q6.cell 6
      have f6 := Q6.frozen 6
      have y0 := Q7.cell 0
      have y1 := Q7.cell 1
      have y2 := Q7.cell 2
      have y3 := Q7.cell 3
      have y4 := Q7.cell 4
      have y5 := Q7.cell 5
      have y6 := Q7.cell 6
      simp at z0 z1 z2 z3 z4 z5 z6 y0 y1 y2 y3 y4 y5 y6
      clear Q1 Q2 Q3 Q4 Q5 Q6 Q7
      have HG := Lib.hid (E8.out.done r0 hh (EO.none_ (w.heap.size + 1) v8) (.int .u16 0) (.int .u64 0) (.int .u8 0) (.int .u64 0) (.int .u8 0) (.string ⟨#[]⟩) (.slice none 0 0))
      clear k8 g8 CF E7
      go_wp2
      refine bodyPost_ret (v := Ev.EV.val ⟨0, 0, 0, 0, 0, ⟨#[]⟩, none, 0, 0⟩) ?_ rfl ?_
      · simp [results, Tryz.f15, go_sem, y0, y1, y2, y3, y4, y5, y6]
      · rw [HD.out]
        exact HG.out
  · have hb0 : (((s6.2 : Nat) : Int) == 0) = false := by rw [beq_eq_false_iff_ne]; omega
    have hb1 : (((s6.2 : Nat) : Int) != 0) = true := by rw [bne, hb0]; rfl
    have HD : Hid (D = (evtZ, s6)) := Lib.hid (by rw [HR.out, if_neg (fun h2 => he h2.1), fail_self' HSN.out he])
    have Q1 := E6.out.res.set 0 (.int .u16 0)
    have Q2 := Q1.set 1 (.int .u64 0)
    have Q3 := Q2.set 2 (.int .u8 0)
    have Q4 := Q3.set 3 (.int .u64 0)
    have Q5 := Q4.set 4 (.int .u8 0)
    have Q6 := Q5.set 5 (.string ⟨#[]⟩)
    have Q7 := Q6.set 6 (.slice none 0 0)
    have z0 := E6.out.res.cell 0
    have f0 := E6.out.res.frozen 0
    have z1 := Q1.cell 1
    have f1 := Q1.frozen 1
    have z2 := Q2.cell 2
    have f2 := Q2.frozen 2
    have z3 := Q3.cell 3
    have f3 := Q3.frozen 3
    have z4 := Q4.cell 4
    have f4 := Q4.frozen 4
    have z5 := Q5.cell 5
    have f5 := Q5.frozen 5
    have z6 := Q6.cell 6
    have f6 := Q6.frozen 6
    have y0 := Q7.cell 0
    have y1 := Q7.cell 1
    have y2 := Q7.cell 2
    have y3 := Q7.cell 3
    have y4 := Q7.cell 4
    have y5 := Q7.cell 5
    have y6 := Q7.cell 6
    simp at z0 z1 z2 z3 z4 z5 z6 y0 y1 y2 y3 y4 y5 y6
    clear Q1 Q2 Q3 Q4 Q5 Q6 Q7
    have HG := Lib.hid (E6.out.done r0 hh (EO.none_ (w.heap.size + 1) v6) (.int .u16 0) (.int .u64 0) (.int .u8 0) (.int .u64 0) (.int .u8 0) (.string ⟨#[]⟩) (.slice none 0 0))
    clear GD e0 e1 e2 e3 e4 e5 e6 O6
    go_wp2
    refine bodyPost_ret (v := Ev.EV.val ⟨0, 0, 0, 0, 0, ⟨#[]⟩, none, 0, 0⟩) ?_ rfl ?_
    · simp [results, Tryz.f15, go_sem, y0, y1, y2, y3, y4, y5, y6]
    · rw [HD.out]
      exact HG.out
end Go.Proofs.YtblgbbpbhcaodaaGreat.Ec

/- The contract of the document's GetAll of layer ecode. -/
namespace Go.Proofs.YtblgbbpbhcaodaaGreat.Ec
open Go.ChangeShapes Go.WideShapes Go.ChangeAt Go.RowKit Go.Proofs.YtblgbbpbhcaodaaGreat.Dc
set_option linter.unusedVariables false
set_option maxRecDepth 4000

theorem stepsE_last {o : List Evt} {j : Nat} {x d : Evt} (hl : o.length = j + 1) (hx : o[j]? = some x) : stepsE o d = Dt.aheadD x.dot d.dot := by
  unfold stepsE
  have : o.getLast? = some x := by rw [List.getLast?_eq_getElem?, hl]; exact hx
  rw [this]
/-- seven cells of a box. -/
theorem box_cells {V : World} {g : Nat} {q : Ev.EV} (h : Nu.At V g 42 #[.int .u16 (q.dev : Int), .int .u64 (q.num : Int), .int .u8 (q.kind : Int), .int .u64 (q.cid : Int), .int .u8 (q.fld : Int), .string q.txt, .slice q.adr q.len q.cap]) :
    V.cell? ⟨g, 0, none⟩ = some (.int .u16 (q.dev : Int)) ∧ V.cell? ⟨g, 1, none⟩ = some (.int .u64 (q.num : Int)) ∧ V.cell? ⟨g, 2, none⟩ = some (.int .u8 (q.kind : Int)) ∧ V.cell? ⟨g, 3, none⟩ = some (.int .u64 (q.cid : Int)) ∧ V.cell? ⟨g, 4, none⟩ = some (.int .u8 (q.fld : Int)) ∧ V.cell? ⟨g, 5, none⟩ = some (.string q.txt) ∧ V.cell? ⟨g, 6, none⟩ = some (.slice q.adr q.len q.cap) :=
  ⟨h.cell 0, h.cell 1, h.cell 2, h.cell 3, h.cell 4, h.cell 5, h.cell 6⟩

set_option maxHeartbeats 16000000 in
theorem rgetall_any (w : World) (h B : Nat) (A : Option Addr) (n c : Nat) (b : List Nat) (s : St) (most : Int) (k : RD h B A n c b w s) (hB : B ≤ h) (hc : c ≤ 9223372036854775807) (hl : s.1.length ≤ 1048576) (hm1 : -9223372036854775808 ≤ most) (hm2 : most < 9223372036854775808) :
    Calls Tryz.prog 8 #[.pointer (some ⟨h, 0, none⟩), .int .i64 most] w (EvtsGot (RD h B A n c b) w h (evtsR most.toNat s)) := by
  have r0 := rd_rdr (A := A) (n := n) (c := c) (b := b) hB
  have hh : h < w.heap.size := r0.lt k
  have hsm := Nu.RR.small k
  have hS : evtsR most.toNat s = (if (evtsL (numN s) [] (dotsF most.toNat s)).2.2 = 0 then evtsL (numN s) [] (dotsF most.toNat s) else ([], (evtsL (numN s) [] (dotsF most.toNat s)).2)) := rfl
  have hF : dotsF most.toNat s = if most.toNat < numN s then failS 3 (numS s) else numS s := rfl
  have hv : numN s < 18446744073709551616 := Nu.numV_lt hsm
  have hle : (numS s).1.length ≤ 1048576 := Nat.le_trans (numS_len s) hl
  have C1 := rnum_st w h B A n c b s k hB
  obtain ⟨s1, hs1⟩ : ∃ s1, dotsF most.toNat s = s1 := ⟨_, rfl⟩
  obtain ⟨sn, hsn⟩ : ∃ sn, numS s = sn := ⟨_, rfl⟩
  obtain ⟨D, hD⟩ : ∃ D, evtsR most.toNat s = D := ⟨_, rfl⟩
  obtain ⟨num, hnum⟩ : ∃ num, numN s = num := ⟨_, rfl⟩
  rw [hD] at hS ⊢
  rw [hs1] at hF hS
  rw [hnum] at hF hS hv C1
  rw [hsn] at hF C1 hle
  have HS := Lib.hid hS
  have HF := Lib.hid hF
  have HLE := Lib.hid hle
  clear hS hF hs1 hD hnum hle k hsm hl hsn
  obtain ⟨mo, hmo⟩ : ∃ mo, most.toNat = mo := ⟨_, rfl⟩
  rw [hmo] at HF
  have HMO := Lib.hid hmo
  have hmb : mo ≤ 9223372036854775807 := by omega
  clear hmo
  go_enter Tryz.func8, Tryz.ntmps8
  go_upto_if 11 with fail
  go_cut [1] (fun s1 wx => s1 = .int .i64 (mo : Int) ∧ wx = w)
  case first =>
    by_cases hm : most < 0
    · have h0 : Hid (mo = 0) := Lib.hid (by have := HMO.out; omega)
      go_wp2
      go_meet
      exact ⟨by rw [h0.out]; rfl, rfl⟩
    · have h0 : Hid (most = (mo : Int)) := Lib.hid (by have := HMO.out; omega)
      go_wp2
      go_meet
      exact ⟨by rw [h0.out], rfl⟩
  case rest =>
    obtain ⟨rfl, hwc⟩ := hcut
    have hwc2 := hwc.symm
    subst hwc2
    clear hwc
    go_upto_region 4 with fail
    refine C1.mono ?_
    rintro r w2 ⟨rfl, k2, g2⟩
    have K2 := Lib.hid k2
    have G2 := Lib.hid g2
    have hw64 : IntKind.u64.wrap (mo : Int) = (mo : Int) := by rw [IntKind.wrap_u64]; omega
    clear k2 g2 C1
    go_upto_if 17 with fail
    go_cut [] (fun wx => RD h B A n c b wx s1 ∧ w.grownBy wx (some h))
    case first =>
      by_cases hlt : mo < num
      · have CF := rfail_st w2 h B A n c b _ 3 K2.out hB (by decide)
        have hs : Hid (s1 = failS 3 sn) := Lib.hid (by rw [HF.out, if_pos hlt])
        have hd : decide (mo < num) = true := decide_eq_true hlt
        go_wp2_with fail
        refine CF.mono ?_
        rintro r w3 ⟨rfl, k3, g3⟩
        go_wp2
        go_meet
        rw [hs.out]
        exact ⟨k3, G2.out.trans g3⟩
      · have hs : Hid (s1 = sn) := Lib.hid (by rw [HF.out, if_neg hlt])
        have hd : decide (mo < num) = false := decide_eq_false hlt
        go_wp2
        go_meet
        rw [hs.out]
        exact ⟨K2.out, G2.out⟩
    case rest =>
      obtain ⟨k3, g3⟩ := hcut
      have K3 := Lib.hid k3
      have G3 := Lib.hid g3
      have hlen : Hid (s1.1.length ≤ 1048576) := Lib.hid (by
        rw [HF.out]
        split
        · show ([] : List Nat).length ≤ _; simp
        · exact HLE.out)
      clear k3 g3 K2 G2
      go_wp2_with fail
      go_loopw [6, 7] (fun v i wr => ∃ (k m c6 : Nat) (A6 : Option Addr) (ps : List Ev.EV) (o : List Evt) (s : St), i = .int .u64 (k : Int) ∧ v = .slice A6 m c6 ∧ VKeep (RD h B A n c b) w h 1048576 num s1 k m c6 A6 ps o s wr) (fun _ i _ => num - (intOf i).toNat)
      case atStart => exact ⟨0, 0, 0, none, [], [], s1, rfl, rfl, Nat.zero_le _, VK.start K3.out G3.out, rfl, fun _ => by rw [Nat.zero_add]; exact hlen.out, Nat.zero_le _⟩
      case round =>
        clear K3 G3 hlen
        obtain ⟨k, m, c6, A6, ps, o, ⟨sl, se⟩, rfl, rfl, hk, hdk, hdl, hbl, hml⟩ := hrel
        have HDK := Lib.hid hdk
        have HDL := Lib.hid hdl
        have c2 : wr.cell? ⟨h, 2, none⟩ = some (.int .i64 (se : Int)) := Nu.RR.bad hdk.rr
        clear hdk hdl
        by_cases hlt : k < num
        · by_cases he : se = 0
          · subst he
            have hmm : m + sl.length ≤ 1048576 := hbl rfl
            have CD := rget_any wr h B A n c b (sl, 0) HDK.out.rr hB hc (by show sl.length ≤ _; omega)
            have hSS : evtsS o (sl, 0) = if (evtR (sl, 0)).2.2 = 0 ∧ stepsE o (evtR (sl, 0)).1 = false then failS 4 (evtR (sl, 0)).2 else (evtR (sl, 0)).2 := rfl
            have HNX := Lib.hid (evts_step hlt rfl HDL.out)
            have HBL := Lib.hid (fun h0 => evtsS_len (L := 1048576) o (sl, 0) h0 (by rw [HDK.out.len]; exact hmm))
            rw [HDK.out.len] at HBL
            obtain ⟨x, hx⟩ : ∃ x, (evtR (sl, 0)).1 = x := ⟨_, rfl⟩
            obtain ⟨s', hs'⟩ : ∃ s', (evtR (sl, 0)).2 = s' := ⟨_, rfl⟩
            obtain ⟨sx, hsx⟩ : ∃ sx, evtsS o (sl, 0) = sx := ⟨_, rfl⟩
            rw [hx, hs', hsx] at hSS
            rw [hx, hsx] at HNX
            rw [hsx] at HBL
            rw [hx, hs'] at CD
            have HSS := Lib.hid hSS
            clear hx hs' hSS hsx
            go_upto_region 12 with fail
            refine CD.mono ?_
            rintro r w3 ⟨q, rfl, o3, k3, g3⟩
            have O3 := Lib.hid o3
            have HD4 := Lib.hid ((HDK.out.read (s' := s') hh k3 g3).below r0 hh (below_new w3 q.box))
            have O4 := Lib.hid (o3.below (below_new w3 q.box))
            have V4 := Lib.hid (Nu.At.new w3 42 #[.int .u16 (q.dev : Int), .int .u64 (q.num : Int), .int .u8 (q.kind : Int), .int .u64 (q.cid : Int), .int .u8 (q.fld : Int), .string q.txt, .slice q.adr q.len q.cap])
            have hqx : (q.dev, q.num) = x.dot := by rw [o3.is.dev, o3.is.num]
            have HQX := Lib.hid hqx
            have hw9 : Hid (w.heap.size ≤ wr.heap.size) := Lib.hid HDK.out.gr.size
            have hrow : Hid (∀ t, (Value.slice A6 m c6).ownBlock = some t → t < wr.heap.size) := Lib.hid (fun t ht => (HDK.out.own.lt t ht).2)
            have hh3 : h < w3.heap.size := r0.lt k3
            clear k3 g3 CD c2 HDK o3 O3 hqx
            go_upto_region 12 with fail
            generalize w3.alloc q.box = w4 at *
            generalize w3.heap.size = g at *
            obtain ⟨sl', se'⟩ := s'
            go_cut [56] (fun v wx => v = .bool (decide (se' = 0) && !stepsE o x) ∧ Below w4.heap.size w4 wx)
            case first =>
              have c4 : w4.cell? ⟨h, 2, none⟩ = some (.int .i64 (se' : Int)) := Nu.RR.bad HD4.out.rr
              by_cases he' : se' = 0
              · subst he'
                by_cases hm0 : m = 0
                · subst hm0
                  have ho : o = [] := List.eq_nil_of_length_eq_zero HD4.out.len
                  have hst : Hid (stepsE o x = true) := Lib.hid (by rw [ho]; rfl)
                  clear ho
                  go_quiet (fail)
                  go_wp2
                  go_meet
                  exact ⟨by rw [hst.out]; rfl, Nu.below_drewN _ _ _⟩
                · obtain ⟨j, hjm⟩ : ∃ j, m = j + 1 := ⟨m - 1, by omega⟩
                  have hj1 : (m : Int) - 1 = (j : Int) := by omega
                  have s5 : (j : Int) < (m : Int) := by omega
                  have s3 : (0 : Int) ≤ (j : Int) := by omega
                  obtain ⟨ad, p, y, rfl, hadB, hlx, hpy, hcy⟩ := (HD4.out.vl (by omega)).at_.at_ (k := j) (by omega)
                  have hst : Hid (stepsE o x = Dt.aheadD (p.dev, p.num) (q.dev, q.num)) := Lib.hid (by
                    rw [stepsE_last (by rw [HD4.out.len]; exact hjm) hlx, HQX.out]
                    have e1 : y.dot = (p.dev, p.num) := by rw [hpy.dev, hpy.num]
                    rw [e1])
                  clear hm0 hjm
                  have HK : Hid (∀ V, Below w4.heap.size w4 V → V.cell? ⟨h, 2, none⟩ = some (.int .i64 0) ∧ (V.cell? (ad.add (j * 7)) = some (.int .u16 (p.dev : Int)) ∧ V.cell? ⟨(ad.add (j * 7)).block, (ad.add (j * 7)).off + 1, none⟩ = some (.int .u64 (p.num : Int))) ∧ V.cell? ⟨g, 0, none⟩ = some (.int .u16 (q.dev : Int)) ∧ V.cell? ⟨g, 1, none⟩ = some (.int .u64 (q.num : Int))) := Lib.hid (fun V hV => by
                    have h1 := box_cells (V4.out.below hV V4.out.lt)
                    have h2 := hcy.kept hV
                    exact ⟨(hV.cell (World.block_lt_of_cell? _ _ c4)).trans c4, ⟨h2.c0, h2.c1⟩, h1.1, h1.2.1⟩)
                  obtain ⟨q0, ⟨q1, q2⟩, q3, q4⟩ := HK.out w4 (Below.refl _ _)
                  have C1 : ∀ W, Below w4.heap.size w4 W → Calls Tryz.prog 25 #[.agg #[.int .u16 (p.dev : Int), .int .u64 (p.num : Int)], .agg #[.int .u16 (q.dev : Int), .int .u64 (q.num : Int)]] W fun e V => e = .returned (.int .i64 (Dt.cmpD (p.dev, p.num) (q.dev, q.num))) ∧ Below w4.heap.size w4 V := fun W (hW : Below w4.heap.size w4 W) => Dt.rcmp_later w4 W (p.dev, p.num) (q.dev, q.num) hW
                  have hwj : IntKind.i64.wrap (j : Int) = (j : Int) := by rw [IntKind.wrap_i64]; omega
                  clear hlx hcy hpy c4
                  go_region_held3 (fun V => V.cell? ⟨h, 2, none⟩ = some (.int .i64 0) ∧ (V.cell? (ad.add (j * 7)) = some (.int .u16 (p.dev : Int)) ∧ V.cell? ⟨(ad.add (j * 7)).block, (ad.add (j * 7)).off + 1, none⟩ = some (.int .u64 (p.num : Int))) ∧ V.cell? ⟨g, 0, none⟩ = some (.int .u16 (q.dev : Int)) ∧ V.cell? ⟨g, 1, none⟩ = some (.int .u64 (q.num : Int))) (first | exact ⟨q0, ⟨q1, q2⟩, q3, q4⟩ | assumption | exact HK.out _ (by (repeat (first | exact Below.refl _ _ | assumption | apply bel_drew)))) (first
                    | (go_at_call 25; (with_reducible refine (C1 _ ?_).mono ?_); (repeat (first | exact Below.refl _ _ | assumption | apply bel_drew)); rintro e V ⟨rfl, bv⟩; have hcV := HK.out V bv))
                  all_goals
                    have hcg : Hid (decide (0 ≤ Dt.cmpD (p.dev, p.num) (q.dev, q.num)) = !Dt.aheadD (p.dev, p.num) (q.dev, q.num)) := Lib.hid (cmp_ge _ _)
                    generalize Dt.cmpD (p.dev, p.num) (q.dev, q.num) = z at *
                    rw [← hj1]
                    clear hj1 hwj s5 s3 q0 q1 q2 q3 q4 hcV
                    go_wp2
                    go_meet
                    exact ⟨by rw [hst.out, hcg.out]; rfl, bv⟩
              · have hi : ((se' : Int) == 0) = false := by rw [beq_eq_false_iff_ne]; omega
                go_quiet (fail)
                go_wp2
                go_meet
                exact ⟨by rw [decide_eq_false he']; rfl, Nu.below_drewN _ _ _⟩
            case rest =>
              obtain ⟨rfl, hb⟩ := hcut
              cases hbad : (decide (se' = 0) && !stepsE o x) with
              | true =>
                have hb1 : se' = 0 ∧ stepsE o x = false := by simpa using hbad
                have HS2 : Hid (failS 4 (sl', se') = sx) := Lib.hid (by rw [HSS.out]; exact (if_pos hb1).symm)
                have CF := rfail_st wc h B A n c b _ 4 (HD4.out.below r0 hh hb).rr hB (by decide)
                rw [HS2.out] at CF
                have V5 := Lib.hid (V4.out.below hb V4.out.lt)
                clear hbad hb1
                go_wp2_with fail
                refine CF.mono ?_
                rintro r V ⟨rfl, k5, g5⟩
                have HDV := Lib.hid ((HD4.out.below r0 hh hb).read (s' := sx) hh k5 g5)
                have HOV := Lib.hid ((O4.out.below hb).turn g5 (fun t e => by cases e; have := hw9.out; omega))
                obtain ⟨d0, d1, d2, d3, d4, d5, d6⟩ := box_cells (V5.out.kept g5 (fun e => by cases e; omega))
                clear k5 g5 CF
                have hsz : Hid (w.heap.size ≤ (V.alloc q.box).heap.size) := Lib.hid (by rw [alloc_size]; exact Nat.le_trans HDV.out.gr.size (Nat.le_succ _))
                have hw1 : IntKind.u64.wrap ((k : Int) + 1) = (k : Int) + 1 := by rw [IntKind.wrap_u64]; omega
                go_wp2_with (at_builtin; refine wpList_evt1 rfl (.tmp 59) (.tmp 61) rfl rfl _ w.heap.size m (.slice A6 m c6) ps V.heap.size q rfl rfl (HDV.out.own.alloc _) (Ev.lies_evt V q) (by omega) hsz.out ?_; intro A3 c3 V3 ho3 hg3 hat3; have HR := Lib.hid (HDV.out.more r0 hh HOV.out hw9.out hrow.out ho3 hg3 hat3); clear ho3 hg3 hat3)
                go_roundw
                case rel => exact ⟨k + 1, m + 1, c3, A3, _, _, sx, by go_num, rfl, hlt, HR.out, HNX.out, HBL.out, by omega⟩
                case measure => simp [intOf]; omega
              | false =>
                have HS2 : Hid ((sl', se') = sx) := Lib.hid (by
                  rw [HSS.out]
                  refine (if_neg (fun hh => ?_)).symm
                  have h1 : se' = 0 := hh.1
                  rw [h1, hh.2] at hbad
                  cases hbad)
                have HDV : Hid (VK (RD h B A n c b) w h wc A6 m c6 ps o sx) := Lib.hid (by rw [← HS2.out]; exact HD4.out.below r0 hh hb)
                have HOV := Lib.hid (O4.out.below hb)
                obtain ⟨d0, d1, d2, d3, d4, d5, d6⟩ := box_cells (V4.out.below hb V4.out.lt)
                clear hbad
                have hsz : Hid (w.heap.size ≤ (wc.alloc q.box).heap.size) := Lib.hid (by rw [alloc_size]; exact Nat.le_trans HDV.out.gr.size (Nat.le_succ _))
                have hw1 : IntKind.u64.wrap ((k : Int) + 1) = (k : Int) + 1 := by rw [IntKind.wrap_u64]; omega
                go_wp2_with (at_builtin; refine wpList_evt1 rfl (.tmp 59) (.tmp 61) rfl rfl _ w.heap.size m (.slice A6 m c6) ps wc.heap.size q rfl rfl (HDV.out.own.alloc _) (Ev.lies_evt wc q) (by omega) hsz.out ?_; intro A3 c3 V3 ho3 hg3 hat3; have HR := Lib.hid (HDV.out.more r0 hh HOV.out hw9.out hrow.out ho3 hg3 hat3); clear ho3 hg3 hat3)
                go_roundw
                case rel => exact ⟨k + 1, m + 1, c3, A3, _, _, sx, by go_num, rfl, hlt, HR.out, HNX.out, HBL.out, by omega⟩
                case measure => simp [intOf]; omega
          · have hi : ((se : Int) == 0) = false := by rw [beq_eq_false_iff_ne]; omega
            have HE : Hid (D = ([], (sl, se))) := Lib.hid (by rw [HS.out, HDL.out, evtsL_bad he]; exact if_neg he)
            go_wp2
            go_ret
            exact evts_none HE.out HDK.out.rr HDK.out.gr
        · obtain rfl : k = num := by omega
          have HL0 : Hid (evtsL k [] s1 = (o, (sl, se))) := Lib.hid (by rw [HDL.out, Nat.sub_self]; rfl)
          by_cases he : se = 0
          · subst he
            have HE : Hid (D = (o, (sl, 0))) := Lib.hid (by rw [HS.out, HL0.out]; rfl)
            go_wp2
            go_ret
            rw [HE.out]
            exact ⟨A6, m, c6, rfl, HDK.out.vl (by omega), HDK.out.rr, HDK.out.gr⟩
          · have hi : ((se : Int) == 0) = false := by rw [beq_eq_false_iff_ne]; omega
            have HE : Hid (D = ([], (sl, se))) := Lib.hid (by rw [HS.out, HL0.out]; exact if_neg he)
            go_wp2
            go_ret
            exact evts_none HE.out HDK.out.rr HDK.out.gr
end Go.Proofs.YtblgbbpbhcaodaaGreat.Ec
