/- Words and contracts that the proofs of this seat stand on, part 13 of 22. -/
import Derived.Test.YtmebokpgiehgmaaGreatMgL
import Derived.Deep.RegionHeld3
import Derived.StillTailTactics
import Derived.Test.YtmebokpgiehgmaaGreatMgG

/- The contract of the program's 'joined': runs that rise, in a list of one's own, are joined where they lie. Condition: at most 2^42 runs. -/
namespace Go.Proofs.YtmebokpgiehgmaaGreat.Ru
open Go.ChangeShapes Go.WideShapes Go.ChangeAt Go.RowKit Go.Shelf
set_option linter.unusedVariables false
set_option maxRecDepth 4000

/-- block g: the runs done so far, and the runs yet to come, each in its place. -/
def JRow (W : World) (g cap : Nat) (o : List Run) (k n : Nat) (l : List Run) : Prop :=
  ∃ cur, W.heap[g]? = some (.cells cur 50 (0, 0)) ∧ cur.size = cap * 2 ∧ cur.toList.take (o.length * 2) = rv o ∧ ∀ j, k * 2 ≤ j → j < n * 2 → cur[j]? = (rv l)[j]?
theorem JRow.below {W W' : World} {g cap k n : Nat} {o l : List Run} (h : JRow W g cap o k n l) (hb : Below W.heap.size W W') : JRow W' g cap o k n l := by
  obtain ⟨cur, h1, h2⟩ := h
  exact ⟨cur, (hb.block g (Array.getElem?_eq_some_iff.1 h1).1).trans h1, h2⟩
theorem JRow.lt {W : World} {g cap k n : Nat} {o l : List Run} (h : JRow W g cap o k n l) : g < W.heap.size := by
  obtain ⟨cur, h1, _⟩ := h
  exact (Array.getElem?_eq_some_iff.1 h1).1
theorem JRow.start {W : World} {B g cap n : Nat} {l : List Run} (h : W.ownsRow B 50 2 (.slice (some ⟨g, 0, none⟩) n cap) n (rv l)) (hl : l.length = n) : JRow W g cap [] 0 n l := by
  obtain ⟨hlen, ⟨hz, _⟩ | ⟨g', cap', cur, e, hB, hheap, hle, hmx, hsz, htk⟩⟩ := h
  · cases hz
  · cases e
    refine ⟨cur, hheap, hsz, by simp [rv], fun j _ hj => ?_⟩
    rw [← htk, List.getElem?_take, if_pos hj]
    simp
/-- the run that comes next. -/
theorem JRow.next {W : World} {g cap k n : Nat} {o l : List Run} (h : JRow W g cap o k n l) (hk : k < n) {r : Run} (hr : l[k]? = some r) :
    W.cell? ⟨g, k * 2, none⟩ = some (.int .u64 (r.1 : Int)) ∧ W.cell? ⟨g, k * 2 + 1, none⟩ = some (.int .u64 (r.2 : Int)) := by
  obtain ⟨cur, h1, h2, h3, h4⟩ := h
  obtain ⟨g1, g2⟩ := rv_get hr
  have c1 := h4 (k * 2) (by omega) (by omega)
  have c2 := h4 (k * 2 + 1) (by omega) (by omega)
  rw [g1] at c1
  rw [g2] at c2
  exact ⟨by simp [World.cell?, h1, c1], by simp [World.cell?, h1, c2]⟩
theorem rv_snoc_get (o : List Run) (s : Run) : (rv (o ++ [s]))[o.length * 2]? = some (.int .u64 (s.1 : Int)) ∧ (rv (o ++ [s]))[o.length * 2 + 1]? = some (.int .u64 (s.2 : Int)) := rv_get (by simp)
/-- the run that was done last. -/
theorem JRow.last {W : World} {g cap k n : Nat} {o l : List Run} {s : Run} (h : JRow W g cap (o ++ [s]) k n l) :
    W.cell? ⟨g, o.length * 2, none⟩ = some (.int .u64 (s.1 : Int)) ∧ W.cell? ⟨g, o.length * 2 + 1, none⟩ = some (.int .u64 (s.2 : Int)) ∧ W.frozen? ⟨g, o.length * 2 + 1, none⟩ = false := by
  obtain ⟨cur, h1, h2, h3, h4⟩ := h
  obtain ⟨g1, g2⟩ := rv_snoc_get o s
  rw [← h3, List.getElem?_take, if_pos (by rw [List.length_append, List.length_singleton]; omega)] at g1
  rw [← h3, List.getElem?_take, if_pos (by rw [List.length_append, List.length_singleton]; omega)] at g2
  rw [Array.getElem?_toList] at g1 g2
  exact ⟨by simp [World.cell?, h1, g1], by simp [World.cell?, h1, g2], by simp [World.frozen?, h1]⟩
/-- another run behind those that are done. -/
theorem JRow.app {W : World} {g cap k n : Nat} {o l : List Run} {r : Run} (h : JRow W g cap o k n l) (hk : k < n) (ho : o.length ≤ k) (hn : n ≤ cap) (a : Addr) (c : Nat) (ha : ∀ (j : Nat) (u : Value), (rv [r])[j]? = some u → W.cell? (a.add j) = some u) :
    ∃ W', (Builtin.append_ #[42, 42] 42 #[.slice (some ⟨g, 0, none⟩) o.length cap, .slice (some a) 1 c]).run Tryz.prog W = .ok (.slice (some ⟨g, 0, none⟩) (o.length + 1) cap) W' ∧ JRow W' g cap (o ++ [r]) (k + 1) n l ∧ W.grownBy W' (some g) := by
  obtain ⟨i0, hi0, hz0, hz1, hz2⟩ := info_parts run_info
  obtain ⟨cur, h1, h2, h3, h4⟩ := h
  have hr := run_append_room (P := Tryz.prog) W 42 42 50 i0 Tryz.underlying42 hi0 g o.length cap cur h1 a 1 c (rv [r]) (by rw [hz1]; rfl) ha (rv_one _) (by omega) (by rw [hz1, h2]; show o.length * 2 + 2 ≤ cap * 2; omega)
  rw [hz1] at hr
  refine ⟨_, hr, ⟨_, setRow_heap W g cur _ 50 _ h1, ?_, ?_, ?_⟩, ⟨rfl, rfl, rfl, by simp, fun k _ hk => setRow_other W g k _ (fun e => hk (by simp [e]))⟩⟩
  · simp only [List.size_toArray, List.length_append, List.length_take, List.length_drop, Array.length_toList, rv_length, List.length_singleton]
    omega
  · rw [h3, List.length_append, List.length_singleton, rv_append]
    rw [show (o.length + 1) * 2 = (rv o ++ rv [r]).length by rw [List.length_append, rv_length, rv_length]; simp; omega]
    exact List.take_left
  · intro j hj1 hj2
    rw [← h4 j (by omega) hj2, h3]
    have e : (rv o ++ rv [r]).length = o.length * 2 + 2 := by rw [List.length_append, rv_length, rv_length]; rfl
    rw [List.getElem?_toArray, List.getElem?_append_right (by omega), e, List.getElem?_drop, Array.getElem?_toList]
    congr 1
    rw [rv_length, List.length_singleton]
    omega
/-- the run that was done last reaches farther. -/
theorem JRow.set {W : World} {g cap k n : Nat} {o l : List Run} {s : Run} (h : JRow W g cap (o ++ [s]) k n l) (hk : o.length + 1 ≤ k + 1) (x : Nat) :
    JRow (W.setCell ⟨g, o.length * 2 + 1, none⟩ (.int .u64 (x : Int))) g cap (o ++ [(s.1, x)]) (k + 1) n l := by
  obtain ⟨cur, h1, h2, h3, h4⟩ := h
  have hlt := (Array.getElem?_eq_some_iff.1 h1).1
  refine ⟨cur.setIfInBounds (o.length * 2 + 1) (.int .u64 (x : Int)), ?_, by rw [Array.size_setIfInBounds]; exact h2, ?_, ?_⟩
  · show (W.heap.modify g _)[g]? = _
    rw [Array.getElem?_modify, if_pos rfl, h1]
    rfl
  · rw [Array.toList_setIfInBounds, List.take_set, List.length_append, List.length_singleton]
    rw [List.length_append, List.length_singleton] at h3
    rw [h3, rv_append, rv_append, List.set_append_right _ _ (by rw [rv_length]; omega), rv_length]
    rw [show o.length * 2 + 1 - o.length * 2 = 1 by omega]
    rfl
  · intro j hj1 hj2
    rw [← h4 j (by omega) hj2, Array.getElem?_setIfInBounds_ne (by omega)]
theorem JRow.stop {W : World} {B g cap n : Nat} {o l : List Run} (h : JRow W g cap o n n l) (hB : B ≤ g) (ho : o.length ≤ n) (hn : n ≤ cap) (hmx : cap ≤ maxLen) : W.ownsRow B 50 2 (.slice (some ⟨g, 0, none⟩) o.length cap) o.length (rv o) := by
  obtain ⟨cur, h1, h2, h3, h4⟩ := h
  exact ⟨rv_length o, .inr ⟨g, cap, cur, rfl, hB, h1, by omega, hmx, h2, h3⟩⟩

theorem wpList_join {ops : Array Oper} {rest : List Oper} {o : Oper} {a : Act} {Q : Exit → Act → World → Prop} (hgd : o.guard = none) (s x : Operand) (ho : o.op = .call { callee := .builtin .append, args := #[s, x], argTypes := #[42, 42] }) (hty : o.type = 42)
    (W : World) (g cap k n : Nat) (d l : List Run) (m : Nat) (r : Run) (ad : Addr) (c : Nat) (hs : a.eval s = .slice (some ⟨g, 0, none⟩) m cap) (hx : a.eval x = .slice (some ad) 1 c) (hm : d.length = m) (h : JRow W g cap d k n l) (hk : k < n) (hd : m ≤ k) (hn : n ≤ cap)
    (ha : ∀ (j : Nat) (u : Value), (rv [r])[j]? = some u → W.cell? (ad.add j) = some u)
    (hK : ∀ W', JRow W' g cap (d ++ [r]) (k + 1) n l → W.grownBy W' (some g) → wpList Tryz.prog ops Q rest (a.put o.dst (.slice (some ⟨g, 0, none⟩) (m + 1) cap)) W') : wpList Tryz.prog ops Q (o :: rest) a W := by
  refine wpList_plain hgd fun K hQ => ?_
  subst hm
  obtain ⟨W', hr, h2, h3⟩ := h.app hk hd hn ad c ha
  rw [← hty] at hr
  unfold Oper.wp execOp
  simp only [ho, resolve, invoke, builtin, Sem.run_bind, Sem.run_pure, Result.andThen_ok, List.map_toArray, List.map_cons, List.map_nil, hs, hx]
  rw [hty] at hr ⊢
  rw [hr]
  exact hQ _ _ (hK _ h2 h3)

theorem turn_set (w : World) (g i : Nat) (u : Value) : w.grownBy (w.setCell ⟨g, i, none⟩ u) (some g) :=
  ⟨rfl, rfl, rfl, by simp [World.setCell], fun k _ hne => Below.heap_setCell w ⟨g, i, none⟩ u k (fun e => hne (by rw [e]))⟩
theorem apart_later (w W : World) (s r : Run) (h : s.2 ≤ 281474976710656) (bel : Below w.heap.size w W) :
    Calls Tryz.prog 91 #[.agg #[.int .u64 (s.1 : Int), .int .u64 (s.2 : Int)], .agg #[.int .u64 (r.1 : Int), .int .u64 (r.2 : Int)]] W fun e w' => e = .returned (.bool (decide (s.2 + 1 < r.1))) ∧ Below w.heap.size w w' :=
  (apart_any W s.1 s.2 r.1 r.2 h).mono fun _ _ ⟨h1, h2⟩ => ⟨h1, bel.trans (h2.mono bel.size)⟩

def JRel (w : World) (g cap n : Nat) (l : List Run) (v i : Value) (wr : World) : Prop :=
  ∃ k m : Nat, k ≤ n ∧ i = .int .i64 (k : Int) ∧ (joinL (l.take k)).length = m ∧ v = .slice (some ⟨g, 0, none⟩) m cap ∧ JRow wr g cap (joinL (l.take k)) k n l ∧ w.grownBy wr (some g)
theorem j_rel {w wr : World} {g cap n k m : Nat} {l o : List Run} (hk : k < n) (hs : joinL (l.take (k + 1)) = o) (hm : o.length = m) (h : JRow wr g cap o (k + 1) n l) (hg : w.grownBy wr (some g)) : JRel w g cap n l (.slice (some ⟨g, 0, none⟩) m cap) (.int .i64 ((k : Int) + 1)) wr :=
  ⟨k + 1, m, hk, by go_num, by rw [hs]; exact hm, rfl, by rw [hs]; exact h, hg⟩
theorem grown_trans {A B C : World} {row : Option Nat} (h : A.grownBy B row) (k : B.grownBy C row) : A.grownBy C row :=
  ⟨k.os.trans h.os, k.tape.trans h.tape, k.output.trans h.output, Nat.le_trans h.size k.size, fun i hi hne => (k.block i (Nat.lt_of_lt_of_le hi h.size) hne).trans (h.block i hi hne)⟩

set_option maxHeartbeats 2000000 in
theorem joined_any (w : World) (B g cap n : Nat) (l : List Run) (hl : l.length = n) (h : w.ownsRow B 50 2 (.slice (some ⟨g, 0, none⟩) n cap) n (rv l)) (hm : ∀ r ∈ l, mayR r = true) (hr : Rise l) (h42 : n ≤ 4398046511104) :
    Calls Tryz.prog 71 #[.slice (some ⟨g, 0, none⟩) n cap] w fun e w' => ∃ m, e = .returned (.slice (some ⟨g, 0, none⟩) m cap) ∧ (joinL l).length = m ∧ w'.ownsRow B 50 2 (.slice (some ⟨g, 0, none⟩) m cap) m (rv (joinL l)) ∧ w.grownBy w' (some g) := by
  have hlt := h.lt g rfl
  have hBg := hlt.1
  obtain ⟨hcap, hmx, _⟩ := own_len h
  have JS := Lib.hid (JRow.start h hl)
  have HL := Lib.hid hl
  have HM := Lib.hid hm
  have HR := Lib.hid hr
  have HU : Hid (∀ k, InOrder (joinL (l.take k)) ∧ (joinL (l.take k)).length ≤ k) := fun k => joinL_upto hm hr k
  clear h hl hm hr
  go_enter Tryz.func71, Tryz.ntmps71
  go_wp2
  go_loopw [3, 11] (fun v i wr => JRel w g cap n l v i wr) (fun _ i _ => n - (intOf i).toNat)
  case atStart => exact ⟨0, 0, Nat.zero_le _, rfl, rfl, rfl, JS.out, turn_refl _ _⟩
  case round =>
    obtain ⟨k, m, hk, rfl, hm, rfl, hj, hg⟩ := hrel
    have HJ := Lib.hid hj
    have HG := Lib.hid hg
    have HE := Lib.hid hm
    have hmk : m ≤ k := by rw [← hm]; exact (HU.out k).2
    clear hj hg hm
    by_cases hlt2 : k < n
    · obtain ⟨r, hrk⟩ : ∃ r, l[k]? = some r := ⟨_, List.getElem?_eq_getElem (by rw [HL.out]; exact hlt2)⟩
      have RK := Lib.hid hrk
      obtain ⟨q1, q2⟩ := HJ.out.next hlt2 hrk
      have TK := Lib.hid (joinL_take hrk)
      have MR : Hid (mayR r = true) := HM.out r (List.mem_of_getElem? hrk)
      have HIo := Lib.hid (HU.out k).1
      clear hrk
      generalize joinL (l.take k) = o at HJ HE TK HIo
      have L0 : Hid (Below wr.heap.size wr (wr.alloc (.cells #[.int .u64 (r.1 : Int), .int .u64 (r.2 : Int)] 50))) := below_new _ _
      have P0 := Lib.hid (Pair.new wr r)
      rcases snoc_cases o with rfl | ⟨o', s, rfl⟩
      · obtain rfl : m = 0 := HE.out.symm
        go_wp2_with fail
        go_quiet (fail)
        have P1 : Pair ((wr.alloc (.cells #[.int .u64 (r.1 : Int), .int .u64 (r.2 : Int)] 50)).drewN nq) wr.heap.size r := P0.out
        have L1 : Hid (Below wr.heap.size wr ((wr.alloc (.cells #[.int .u64 (r.1 : Int), .int .u64 (r.2 : Int)] 50)).drewN nq)) := L0.out.trans ⟨rfl, rfl, rfl, Nat.le_refl _, fun _ _ => rfl⟩
        generalize (wr.alloc (.cells #[.int .u64 (r.1 : Int), .int .u64 (r.2 : Int)] 50)).drewN nq = V at P1 L1 ⊢
        have J1 := Lib.hid ((HJ.out.below L1.out).below (below_new V (.cells #[.int .u64 (r.1 : Int), .int .u64 (r.2 : Int)] 50)))
        have G1 : Hid (w.grownBy (V.alloc (.cells #[.int .u64 (r.1 : Int), .int .u64 (r.2 : Int)] 50)) (some g)) := grown_trans HG.out (turn_below (L1.out.trans ((below_new V _).mono L1.out.size)) _)
        have p1 := P1.cell1
        have p2 := P1.cell2
        clear P1 q1 q2 hlt
        go_wp2_with (at_builtin; refine wpList_join rfl (.tmp 28) (.tmp 30) rfl rfl _ g cap k n [] l 0 r ⟨V.heap.size, 0, none⟩ 1 rfl rfl rfl J1.out hlt2 (by omega) hcap (pair_at V r) ?_; intro W' hj' hg'; have HR := Lib.hid (j_rel hlt2 TK.out rfl hj' (grown_trans G1.out hg')); clear hj' hg')
        go_roundw
        case rel => exact HR.out
        case measure => simp [intOf]; omega
      · obtain ⟨z, hz⟩ : ∃ z, o'.length = z := ⟨_, rfl⟩
        obtain rfl : m = z + 1 := by rw [← HE.out, List.length_append, hz]; rfl
        have HZ := Lib.hid hz
        have hs2 : s.2 ≤ 281474976710656 := by have := (may_iff s).1 (HIo.out.1 s (by simp)); omega
        have hr2 : r.2 ≤ 281474976710656 := by have := (may_iff r).1 MR.out; omega
        have J0 := Lib.hid (HJ.out.below L0.out)
        have HCR : Hid (∀ V, Below (wr.alloc (.cells #[.int .u64 (r.1 : Int), .int .u64 (r.2 : Int)] 50)).heap.size (wr.alloc (.cells #[.int .u64 (r.1 : Int), .int .u64 (r.2 : Int)] 50)) V → (V.cell? ⟨g, z * 2, none⟩ = some (.int .u64 (s.1 : Int)) ∧ V.cell? ⟨g, z * 2 + 1, none⟩ = some (.int .u64 (s.2 : Int))) ∧ V.cell? ⟨wr.heap.size, 0, none⟩ = some (.int .u64 (r.1 : Int)) ∧ V.cell? ⟨wr.heap.size, 1, none⟩ = some (.int .u64 (r.2 : Int))) := fun V hV => by
          obtain ⟨c1, c2, _⟩ := (J0.out.below hV).last
          rw [HZ.out] at c1 c2
          exact ⟨⟨c1, c2⟩, (P0.out.below hV).cell1, (P0.out.below hV).cell2⟩
        have HV0 : Hid (∀ V, Below (wr.alloc (.cells #[.int .u64 (r.1 : Int), .int .u64 (r.2 : Int)] 50)).heap.size (wr.alloc (.cells #[.int .u64 (r.1 : Int), .int .u64 (r.2 : Int)] 50)) V → (JRow V g cap (o' ++ [s]) k n l ∧ Pair V wr.heap.size r) ∧ w.grownBy V (some g)) := fun V hV => ⟨⟨J0.out.below hV, P0.out.below hV⟩, grown_trans HG.out (turn_below (L0.out.trans (hV.mono L0.out.size)) _)⟩
        have hzk : z < n := by omega
        have hzz : z < z + 1 := Nat.lt_succ_self z
        have hz0 : decide ((z : Int) < 0) = false := decide_eq_false (by omega)
        have hz1 : (0 : Int) ≤ (z : Int) := by omega
        have hz2 : (z : Int) < (z : Int) + 1 := by omega
        have hz3 : ¬ ((z : Int) + 1 ≤ (z : Int)) := by omega
        have hz4 : ¬ ((z : Int) < 0) := by omega
        clear hz q1 q2 hlt
        obtain ⟨q1, q2⟩ := HJ.out.next hlt2 RK.out
        go_wp2_with fail
        clear q1 q2
        obtain ⟨⟨d1, d2⟩, d3, d4⟩ := HCR.out _ (Below.refl _ _)
        generalize wr.alloc (.cells #[.int .u64 (r.1 : Int), .int .u64 (r.2 : Int)] 50) = V0 at HCR HV0 d1 d2 d3 d4 ⊢
        go_region_held3 (fun V => (V.cell? ⟨g, z * 2, none⟩ = some (.int .u64 (s.1 : Int)) ∧ V.cell? ⟨g, z * 2 + 1, none⟩ = some (.int .u64 (s.2 : Int))) ∧ V.cell? ⟨wr.heap.size, 0, none⟩ = some (.int .u64 (r.1 : Int)) ∧ V.cell? ⟨wr.heap.size, 1, none⟩ = some (.int .u64 (r.2 : Int))) (first | exact ⟨⟨d1, d2⟩, d3, d4⟩ | exact HCR.out _ (by (repeat (first | exact Below.refl _ _ | assumption | apply bel_drew)))) (first | (go_at_call 91; (with_reducible refine (apart_later V0 _ s r hs2 ?_).mono ?_); (repeat (first | exact Below.refl _ _ | assumption | apply bel_drew)); rintro e V ⟨rfl, bv⟩; have hcV := HCR.out V bv))
        obtain ⟨⟨JV0, PV0⟩, GV0⟩ := HV0.out V bv
        have JV := Lib.hid JV0
        have PV := Lib.hid PV0
        have GV := Lib.hid GV0
        clear JV0 PV0 GV0 bv hcV d1 d2 d3 d4 HCR HV0 J0 L0 P0
        have p1 := PV.out.cell1
        have p2 := PV.out.cell2
        by_cases hf : s.2 + 1 < r.1
        · have hfd : decide (s.2 + 1 < r.1) = true := decide_eq_true hf
          rw [joinS_far hf] at TK
          rw [hfd]
          clear hf hfd hz1 hz2 hz3 hz4 hz0
          have J1 := Lib.hid (JV.out.below (below_new V (.cells #[.int .u64 (r.1 : Int), .int .u64 (r.2 : Int)] 50)))
          have G1 : Hid (w.grownBy (V.alloc (.cells #[.int .u64 (r.1 : Int), .int .u64 (r.2 : Int)] 50)) (some g)) := grown_trans GV.out (turn_below (below_new V _) _)
          go_wp2_with (at_builtin; refine wpList_join rfl (.tmp 28) (.tmp 30) rfl rfl _ g cap k n (o' ++ [s]) l (z + 1) r ⟨V.heap.size, 0, none⟩ 1 rfl rfl HE.out J1.out hlt2 (by omega) hcap (pair_at V r) ?_; intro W' hj' hg'; have HR := Lib.hid (j_rel hlt2 TK.out (by rw [List.length_append, HE.out]) hj' (grown_trans G1.out hg')); clear hj' hg')
          go_roundw
          case rel => exact HR.out
          case measure => simp [intOf]; omega
        · have hfd : decide (s.2 + 1 < r.1) = false := decide_eq_false hf
          rw [joinS_near hf] at TK
          rw [hfd]
          obtain ⟨_, c2, c3⟩ := JV.out.last
          rw [HZ.out] at c2 c3
          by_cases hc : s.2 < r.2
          · clear hf hfd hz0
            go_wp2_with fail
            go_still_tail 12, (by kernel_rfl)
            have J2 : Hid (JRow (V.drew.setCell ⟨g, z * 2 + 1, none⟩ (.int .u64 (r.2 : Int))) g cap (o' ++ [(s.1, max s.2 r.2)]) (k + 1) n l) := by
              have h1 : JRow V.drew g cap (o' ++ [s]) k n l := JV.out
              have h2 := h1.set (by rw [HZ.out]; omega) r.2
              rw [HZ.out] at h2
              rw [show max s.2 r.2 = r.2 by omega]
              exact h2
            have G2 : Hid (w.grownBy (V.drew.setCell ⟨g, z * 2 + 1, none⟩ (.int .u64 (r.2 : Int))) (some g)) := by
              have h1 : w.grownBy V.drew (some g) := ⟨GV.out.os, GV.out.tape, GV.out.output, GV.out.size, GV.out.block⟩
              exact grown_trans h1 (turn_set _ _ _ _)
            have HR := Lib.hid (j_rel hlt2 TK.out (by rw [List.length_append, HZ.out]) J2.out G2.out)
            have c4 : V.drew.cell? ⟨g, z * 2 + 1, none⟩ = some (.int .u64 (s.2 : Int)) := c2
            have c5 : V.drew.frozen? ⟨g, z * 2 + 1, none⟩ = false := c3
            clear c2 c3 p1 p2 J2 G2 JV GV PV
            change wpList _ _ _ _ _ V.drew
            generalize V.drew = V2 at *
            go_wp2
            go_roundw
            case rel => exact HR.out
            case measure => simp [intOf]; omega
          · clear hf hfd hz0
            go_wp2_with fail
            go_still_tail 12, (by kernel_rfl)
            have J2 : Hid (JRow (V.drew.setCell ⟨g, z * 2 + 1, none⟩ (.int .u64 (s.2 : Int))) g cap (o' ++ [(s.1, max s.2 r.2)]) (k + 1) n l) := by
              have h1 : JRow V.drew g cap (o' ++ [s]) k n l := JV.out
              have h2 := h1.set (by rw [HZ.out]; omega) s.2
              rw [HZ.out] at h2
              rw [show max s.2 r.2 = s.2 by omega]
              exact h2
            have G2 : Hid (w.grownBy (V.drew.setCell ⟨g, z * 2 + 1, none⟩ (.int .u64 (s.2 : Int))) (some g)) := by
              have h1 : w.grownBy V.drew (some g) := ⟨GV.out.os, GV.out.tape, GV.out.output, GV.out.size, GV.out.block⟩
              exact grown_trans h1 (turn_set _ _ _ _)
            have HR := Lib.hid (j_rel hlt2 TK.out (by rw [List.length_append, HZ.out]) J2.out G2.out)
            have c4 : V.drew.cell? ⟨g, z * 2 + 1, none⟩ = some (.int .u64 (s.2 : Int)) := c2
            have c5 : V.drew.frozen? ⟨g, z * 2 + 1, none⟩ = false := c3
            clear c2 c3 p1 p2 J2 G2 JV GV PV
            change wpList _ _ _ _ _ V.drew
            generalize V.drew = V2 at *
            go_wp2
            go_roundw
            case rel => exact HR.out
            case measure => simp [intOf]; omega
    · obtain rfl : k = n := by omega
      have e : Hid (l.take k = l) := List.take_of_length_le (by rw [HL.out]; exact Nat.le_refl _)
      rw [e.out] at HJ HE
      go_wp2
      go_ret
      exact ⟨m, rfl, HE.out, by rw [← HE.out]; exact HJ.out.stop hBg (by rw [HE.out]; exact hmk) hcap hmx, HG.out⟩
end Go.Proofs.YtmebokpgiehgmaaGreat.Ru

/- The contract of the program's Has of layer ctx. For every context and every dot. -/
namespace Go.Proofs.YtmebokpgiehgmaaGreat.Cx
open Go.ChangeShapes Go.WideShapes Go.ChangeAt Go.RowKit Go.Maps
set_option linter.unusedVariables false
set_option maxRecDepth 4000

set_option maxHeartbeats 4000000 in
theorem phas_any (w : World) (A1 : Option Addr) (a : List Part) (n1 c1 : Nat) (d : Dot) (h1 : CtxAt w A1 a n1 c1) (hd : d.1 < 65536 ∧ d.2 < 18446744073709551616) :
    Calls Tryz.prog 24 #[.slice A1 n1 c1, .agg #[.int .u16 (d.1 : Int), .int .u64 (d.2 : Int)]] w fun e w' => e = .returned (.bool (hasC a d)) ∧ Below w.heap.size w w' := by
  have CG := fun W => Dt.pgood_x W d
  have H1 := Lib.hid h1
  have hn63 : n1 ≤ 9223372036854775807 := Nat.le_trans h1.cap h1.max
  have HB2 : Hid (Below w.heap.size w ((w.alloc (.cells #[.int .u16 (d.1 : Int), .int .u64 (d.2 : Int)] 28)).alloc (.cells #[.int .u16 (d.1 : Int), .int .u64 (d.2 : Int)] 28))) := Lib.hid (bel_alloc _ (Dt.below_new _ _))
  have HXB := Lib.hid (Dt.box_at w d)
  have HBX : Hid (Below (w.alloc (.cells #[.int .u16 (d.1 : Int), .int .u64 (d.2 : Int)] 28)).heap.size (w.alloc (.cells #[.int .u16 (d.1 : Int), .int .u64 (d.2 : Int)] 28)) ((w.alloc (.cells #[.int .u16 (d.1 : Int), .int .u64 (d.2 : Int)] 28)).alloc (.cells #[.int .u16 (d.1 : Int), .int .u64 (d.2 : Int)] 28))) := Lib.hid (Dt.below_new _ _)
  obtain ⟨dd, dn⟩ := d
  dsimp only at CG HB2 HXB HBX hd
  obtain ⟨hd1, hd2⟩ := hd
  clear h1
  cases hm : Dt.mayD (dd, dn) with
  | false =>
    rw [has_none hm]
    rw [hm] at CG
    clear hm
    go_enter Tryz.func24, Tryz.ntmps24
    go_wp2_with fail
    refine (CG _).mono ?_
    rintro e w1 ⟨rfl, rfl⟩
    go_wp2
    go_ret
    exact ⟨rfl, HB2.out⟩
  | true =>
    have HE := Lib.hid (has_any' (c := a) hm)
    rw [HE.out]
    rw [hm] at CG
    clear hm HE
    go_enter Tryz.func24, Tryz.ntmps24
    go_wp2_with fail
    refine (CG _).mono ?_
    rintro e w1 ⟨rfl, rfl⟩
    clear CG
    go_wp2_with fail
    generalize (w.alloc (.cells #[.int .u16 (dd : Int), .int .u64 (dn : Int)] 28)).alloc (.cells #[.int .u16 (dd : Int), .int .u64 (dn : Int)] 28) = w0 at *
    have HXC : Hid (∀ V, Below w0.heap.size w0 V → V.cell? ⟨w.heap.size, 0, none⟩ = some (.int .u16 (dd : Int)) ∧ V.cell? ⟨w.heap.size, 1, none⟩ = some (.int .u64 (dn : Int))) := Lib.hid (fun V hV => HXB.out V (HBX.out.trans (hV.mono HBX.out.size)))
    have H2 := Lib.hid (H1.out.up HB2.out)
    go_loopw [12] (fun i wr => ∃ k : Nat, k ≤ n1 ∧ i = .int .i64 (k : Int) ∧ (a.take k).any (hitC (dd, dn)) = false ∧ Below w0.heap.size w0 wr) (fun i _ => n1 - (intOf i).toNat)
    case atStart => exact ⟨0, Nat.zero_le _, rfl, rfl, Below.refl _ _⟩
    case round =>
      obtain ⟨k, hk, rfl, hf, hw⟩ := hrel
      have HF := Lib.hid hf
      have HW := Lib.hid hw
      clear hf hw
      by_cases hlt : k < n1
      · obtain ⟨ad, p, x, rfl, hB, hx, hp, hcell⟩ := H2.out.cells hlt
        obtain ⟨x1, xl⟩ := x
        have HN := Lib.hid (any_next (d := (dd, dn)) hx)
        have HH := Lib.hid (any_hit (d := (dd, dn)) hx)
        have HX := Lib.hid (hp.up HW.out)
        obtain ⟨d1, d2⟩ := hcell wr HW.out
        dsimp only at d1 d2
        clear hx hp hcell
        have BX : Hid (Below wr.heap.size wr (wr.alloc (.cells #[.int .u16 (x1 : Int), .slice p.adr p.len p.cap] 44))) := Lib.hid (Dt.below_new _ _)
        have HW1 := Lib.hid (HW.out.trans (BX.out.mono HW.out.size))
        obtain ⟨d3, d4⟩ := pbox_at wr x1 p.adr p.len p.cap _ (Below.refl _ _)
        obtain ⟨d5, d6⟩ := HXC.out _ HW1.out
        have HWF : Hid (Below w.heap.size w (wr.alloc (.cells #[.int .u16 (x1 : Int), .slice p.adr p.len p.cap] 44))) := Lib.hid (HB2.out.trans (HW1.out.mono HB2.out.size))
        by_cases hxd : x1 = dd
        · subst hxd
          have HXB2 := Lib.hid (HX.out.up BX.out)
          have CH := Ru.phas_any _ p.adr xl p.len p.cap dn HXB2.out.len HXB2.out.runs (Nat.le_trans HXB2.out.cap HXB2.out.max)
          have HT : Hid (hitC (x1, dn) (x1, xl) = Ru.has xl dn) := Lib.hid (by unfold hitC; simp)
          rw [HT.out] at HN HH
          clear HX BX HXB2 HT
          cases hh : Ru.has xl dn with
          | true =>
            rw [hh] at CH
            have HA := Lib.hid (HH.out hh)
            clear HN HH hh
            go_wp2_with fail
            refine CH.mono ?_
            rintro e w2 ⟨rfl, hb2⟩
            have HWG := Lib.hid (HWF.out.trans (hb2.mono HWF.out.size))
            clear hb2 CH
            go_wp2
            go_ret
            exact ⟨Ru.ret_bool HA.out.symm, HWG.out⟩
          | false =>
            rw [hh] at CH
            have HA : Hid ((a.take (k + 1)).any (hitC (x1, dn)) = false) := Lib.hid (by rw [HN.out, HF.out, hh]; rfl)
            clear HN HH hh
            go_wp2_with fail
            refine CH.mono ?_
            rintro e w2 ⟨rfl, hb2⟩
            have HWG := Lib.hid (HW1.out.trans (hb2.mono HW1.out.size))
            clear hb2 CH
            go_wp2
            go_roundw
            case rel => exact ⟨k + 1, by omega, by go_num, HA.out, HWG.out⟩
            case measure => simp [intOf]; omega
        · have e1 : ((x1 : Int) == (dd : Int)) = false := by rw [beq_eq_false_iff_ne]; omega
          have HA : Hid ((a.take (k + 1)).any (hitC (dd, dn)) = false) := Lib.hid (by
            have : hitC (dd, dn) (x1, xl) = false := by unfold hitC; simp [hxd]
            rw [HN.out, HF.out, this]; rfl)
          clear HN HH HX BX
          go_wp2
          go_roundw
          case rel => exact ⟨k + 1, by omega, by go_num, HA.out, HW1.out⟩
          case measure => simp [intOf]; omega
      · obtain rfl : k = n1 := by omega
        have HA : Hid (a.any (hitC (dd, dn)) = false) := Lib.hid (by
          have h := HF.out
          rw [List.take_of_length_le (by rw [H2.out.len]; exact Nat.le_refl _)] at h
          exact h)
        have HWG := Lib.hid (HB2.out.trans (HW.out.mono HB2.out.size))
        go_wp2
        go_ret
        exact ⟨Ru.ret_bool HA.out.symm, HWG.out⟩
end Go.Proofs.YtmebokpgiehgmaaGreat.Cx
