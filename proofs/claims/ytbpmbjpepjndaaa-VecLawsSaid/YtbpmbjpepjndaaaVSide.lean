/- What the walks of layer vec's laws ask of the program's own functions, and the chapter's example. -/
import Derived.Test.YtbpmbjpepjndaaaVLack
namespace Go.Proofs.Ytbpmbjpepjndaaa.Dt
open Go.ChangeShapes Go.WideShapes Go.ChangeAt Go.RowKit
set_option linter.unusedVariables false

/-- a dot of its types. -/
def FitD (d : Dot) : Prop := d.1 < 65536 ∧ d.2 < 18446744073709551616
/-- a slice of at most 2^43 dots, that lies in this world. -/
structure VecAt (w : World) (A : Option Addr) (l : List Dot) (n c : Nat) : Prop where
  len : l.length = n
  nil : A = none → n = 0 ∧ c = 0
  cap : n ≤ c
  max : c ≤ 9223372036854775807
  dots : Dots w w.heap.size A l
  few : n ≤ 8796093022208
theorem VecAt.up {w W : World} {A : Option Addr} {l : List Dot} {n c : Nat} (h : VecAt w A l n c) (hW : Below w.heap.size w W) : VecAt W A l n c := ⟨h.len, h.nil, h.cap, h.max, h.dots.up hW, h.few⟩
/-- a list of dots came out. -/
theorem vec_post {w w' : World} {m : List Dot} {e : Ending} (h : DotPost w m e w') (hf : Fit m) (hl : m.length ≤ 8796093022208) : ∃ A n c, e = .returned (.slice A n c) ∧ VecAt w' A m n c ∧ Below w.heap.size w w' := by
  obtain ⟨A, n, c, rfl, hn, hA, h1, h2, hD, _, hb⟩ := post_dots h hf
  exact ⟨A, n, c, rfl, ⟨hn, hA, h1, h2, hD, by omega⟩, hb⟩
/-- the answers of the program's functions. -/
structure PVec : Prop where
  norm : ∀ (w : World) (A : Option Addr) (l : List Dot) (n c : Nat), VecAt w A l n c → Calls Try.prog 13 #[.slice A n c] w (DotPost w (normV l))
  good : ∀ (w : World) (A : Option Addr) (l : List Dot) (n c : Nat), VecAt w A l n c → Calls Try.prog 14 #[.slice A n c] w fun e w' => e = .returned (.bool (goodV l)) ∧ Below w.heap.size w w'
  of : ∀ (w : World) (A : Option Addr) (l : List Dot) (n c d : Nat), VecAt w A l n c → d < 65536 → Calls Try.prog 15 #[.slice A n c, .int .u16 (d : Int)] w fun e w' => e = .returned (.int .u64 ((ofV l d : Nat) : Int)) ∧ Below w.heap.size w w'
  has : ∀ (w : World) (A : Option Addr) (l : List Dot) (n c : Nat) (d : Dot), VecAt w A l n c → FitD d → Calls Try.prog 17 #[.slice A n c, .agg #[.int .u16 (d.1 : Int), .int .u64 (d.2 : Int)]] w fun e w' => e = .returned (.bool (hasV l d)) ∧ Below w.heap.size w w'
  put : ∀ (w : World) (A : Option Addr) (l : List Dot) (n c : Nat) (d : Dot), VecAt w A l n c → FitD d → Calls Try.prog 18 #[.slice A n c, .agg #[.int .u16 (d.1 : Int), .int .u64 (d.2 : Int)]] w (DotPost w (putV l d))
  join : ∀ (w : World) (A1 A2 : Option Addr) (l1 l2 : List Dot) (n1 n2 c1 c2 : Nat), VecAt w A1 l1 n1 c1 → VecAt w A2 l2 n2 c2 → Calls Try.prog 19 #[.slice A1 n1 c1, .slice A2 n2 c2] w (DotPost w (joinV l1 l2))
  meet : ∀ (w : World) (A1 A2 : Option Addr) (l1 l2 : List Dot) (n1 n2 c1 c2 : Nat), VecAt w A1 l1 n1 c1 → VecAt w A2 l2 n2 c2 → Calls Try.prog 20 #[.slice A1 n1 c1, .slice A2 n2 c2] w (DotPost w (meetV l1 l2))
  order : ∀ (w : World) (A1 A2 : Option Addr) (l1 l2 : List Dot) (n1 n2 c1 c2 : Nat), VecAt w A1 l1 n1 c1 → VecAt w A2 l2 n2 c2 → Calls Try.prog 22 #[.slice A1 n1 c1, .slice A2 n2 c2] w fun e w' => e = .returned (.int .i64 (orderV l1 l2)) ∧ Below w.heap.size w w'
  lack : ∀ (w : World) (A1 A2 : Option Addr) (l1 l2 : List Dot) (n1 n2 c1 c2 : Nat), VecAt w A1 l1 n1 c1 → VecAt w A2 l2 n2 c2 → Calls Try.prog 24 #[.slice A1 n1 c1, .slice A2 n2 c2] w fun e w' => e = .returned (.int .u64 ((lackV l1 l2 : Nat) : Int)) ∧ Below w.heap.size w w'

/-! Lists that come out are short. -/
theorem short_norm (l : List Dot) : (normV l).length ≤ 8796093022208 := Nat.le_trans (list_length _) (by omega)
theorem short_join (a b : List Dot) : (joinV a b).length ≤ 8796093022208 := Nat.le_trans (list_length _) (by omega)
theorem short_meet (a b : List Dot) : (meetV a b).length ≤ 8796093022208 := Nat.le_trans (list_length _) (by omega)
theorem fit_dot {d : Dot} (h : FitD d) : Fit [d] := fit_one h.1 h.2
theorem fit_put' {l : List Dot} {d : Dot} (h : Fit l) (hd : FitD d) : Fit (putV l d) := fit_join h (fit_dot hd)

/-- a call that tells, in a later world. -/
theorem later {w W : World} {f : Nat} {args : Array Value} {v : Value} (hW : Below w.heap.size w W) (h : Calls Try.prog f args W fun e V => e = .returned v ∧ Below W.heap.size W V) :
    Calls Try.prog f args W fun e V => e = .returned v ∧ Below w.heap.size w V :=
  h.mono fun _ _ ⟨h1, h2⟩ => ⟨h1, hW.trans (h2.mono hW.size)⟩
/-- a call that makes a list, in a later world. -/
theorem made {w W : World} {f : Nat} {args : Array Value} {m : List Dot} (hW : Below w.heap.size w W) (hf : Fit m) (hl : m.length ≤ 8796093022208) (h : Calls Try.prog f args W (DotPost W m)) :
    Calls Try.prog f args W fun e V => ∃ A n c, e = .returned (.slice A n c) ∧ VecAt V A m n c ∧ Below w.heap.size w V ∧ Below W.heap.size W V :=
  h.mono fun e V hp => by
    obtain ⟨A, n, c, e1, h1, h2⟩ := vec_post hp hf hl
    exact ⟨A, n, c, e1, h1, hW.trans (h2.mono hW.size), h2⟩
/-- the document's Same, in a later world. -/
theorem same_later (w W : World) (A1 A2 : Option Addr) (l m : List Dot) (n1 n2 c1 c2 : Nat) (hW : Below w.heap.size w W) (h1 : VecAt W A1 l n1 c1) (h2 : VecAt W A2 m n2 c2) :
    Calls Try.prog 12 #[.slice A1 n1 c1, .slice A2 n2 c2] W fun e V => e = .returned (.bool (decide (l = m))) ∧ Below w.heap.size w V := by
  refine (rsame_any W _ _ A1 A2 l m n1 n2 c1 c2 h1.len h2.len h1.dots h2.dots (Nat.le_trans h1.few (by decide))).mono ?_
  rintro e V ⟨rfl, k, rfl⟩
  exact ⟨rfl, bel_drewN hW k⟩

theorem same_true (w W : World) (A1 A2 : Option Addr) (l : List Dot) (n1 n2 c1 c2 : Nat) (hW : Below w.heap.size w W) (h1 : VecAt W A1 l n1 c1) (h2 : VecAt W A2 l n2 c2) :
    Calls Try.prog 12 #[.slice A1 n1 c1, .slice A2 n2 c2] W fun e V => e = .returned (.bool true) ∧ Below w.heap.size w V :=
  (same_later w W A1 A2 l l n1 n2 c1 c2 hW h1 h2).mono fun _ _ ⟨h1, h2⟩ => ⟨by rw [h1, decide_eq_true rfl], h2⟩

/-! The chapter's example. -/
theorem fit_a : Fit [(1, 3), (2, 1)] := by unfold Fit; decide
theorem fit_b : Fit [(2, 4)] := by unfold Fit; decide
theorem of_a (d : Nat) : ofV [(1, 3), (2, 1)] d = if d = 1 then 3 else if d = 2 then 1 else 0 := by
  rw [of_cons, of_one]
  have h1 : mayD (1, 3) = true := by decide
  have h2 : mayD (2, 1) = true := by decide
  simp only [h1, h2, and_true]
  by_cases e1 : d = 1
  · subst e1; simp
  · by_cases e2 : d = 2
    · subst e2; simp
    · have e1' : ¬ 1 = d := fun h => e1 h.symm
      have e2' : ¬ 2 = d := fun h => e2 h.symm
      simp [e1, e2, e1', e2']
theorem of_b (d : Nat) : ofV [(2, 4)] d = if d = 2 then 4 else 0 := by
  rw [of_one]
  have h1 : mayD (2, 4) = true := by decide
  simp only [h1, and_true]
  by_cases e2 : d = 2
  · subst e2; simp
  · have e2' : ¬ 2 = d := fun h => e2 h.symm
    simp [e2, e2']
theorem of_c (d : Nat) : ofV [(1, 3), (2, 4)] d = if d = 1 then 3 else if d = 2 then 4 else 0 := by
  rw [of_cons, of_one]
  have h1 : mayD (1, 3) = true := by decide
  have h2 : mayD (2, 4) = true := by decide
  simp only [h1, h2, and_true]
  by_cases e1 : d = 1
  · subst e1; simp
  · by_cases e2 : d = 2
    · subst e2; simp
    · have e1' : ¬ 1 = d := fun h => e1 h.symm
      have e2' : ¬ 2 = d := fun h => e2 h.symm
      simp [e1, e2, e1', e2']
theorem of_d (d : Nat) : ofV [(2, 1)] d = if d = 2 then 1 else 0 := by
  rw [of_one]
  have h1 : mayD (2, 1) = true := by decide
  simp only [h1, and_true]
  by_cases e2 : d = 2
  · subst e2; simp
  · have e2' : ¬ 2 = d := fun h => e2 h.symm
    simp [e2, e2']
/-- a list in order is the vector of what it tells. -/
theorem in_order {v : List Dot} {f : Nat → Nat} (hv : Fit v) (h : goodV v = true) (hf : ∀ d, f d = ofV v d) : listV f = v := by
  have h1 : v = normV v := of_decide_eq_true h
  have h2 : f = ofV v := funext hf
  rw [h2]
  exact h1.symm
theorem ex_join : joinV [(1, 3), (2, 1)] [(2, 4)] = [(1, 3), (2, 4)] := by
  refine in_order (by unfold Fit; decide) ((good_rise (by unfold Fit; decide)).2 ⟨by simp, by decide⟩) fun d => ?_
  rw [of_a, of_b, of_c]
  by_cases e1 : d = 1
  · subst e1; rfl
  · by_cases e2 : d = 2
    · subst e2; rfl
    · simp [e1, e2]
theorem ex_meet : meetV [(1, 3), (2, 1)] [(2, 4)] = [(2, 1)] := by
  refine in_order (by unfold Fit; decide) ((good_rise (by unfold Fit; decide)).2 ⟨by simp, by decide⟩) fun d => ?_
  rw [of_a, of_b, of_d]
  by_cases e1 : d = 1
  · subst e1; rfl
  · by_cases e2 : d = 2
    · subst e2; rfl
    · simp [e1, e2]
theorem ex_order : orderV [(1, 3), (2, 1)] [(2, 4)] = 2 := by
  have h1 : ¬ mostV [(1, 3), (2, 1)] [(2, 4)] = true := fun h => by
    have := (most_iff fit_a).1 h 1
    rw [of_a, of_b] at this
    exact absurd this (by decide)
  have h2 : ¬ mostV [(2, 4)] [(1, 3), (2, 1)] = true := fun h => by
    have := (most_iff fit_b).1 h 2
    rw [of_a, of_b] at this
    exact absurd this (by decide)
  unfold orderV
  rw [if_neg (fun h => h1 h.1), if_neg h1, if_neg h2]
theorem ex_any : listV (anyV [(1, 3), (2, 1)] [(2, 4)]) = [(1, 1), (2, 1)] := by
  refine in_order (by unfold Fit; decide) ((good_rise (by unfold Fit; decide)).2 ⟨by simp, by decide⟩) fun d => ?_
  unfold anyV
  rw [of_a, of_b, of_cons, of_one]
  have h1 : mayD (1, 1) = true := by decide
  have h2 : mayD (2, 1) = true := by decide
  simp only [h1, h2, and_true]
  by_cases e1 : d = 1
  · subst e1; rfl
  · by_cases e2 : d = 2
    · subst e2; rfl
    · have e1' : ¬ 1 = d := fun h => e1 h.symm
      have e2' : ¬ 2 = d := fun h => e2 h.symm
      simp [e1, e2, e1', e2']
theorem ex_lack : lackV [(1, 3), (2, 1)] [(2, 4)] = 3 := by
  rw [← lack_list, ex_any]
  unfold moreV
  simp only [of_a, of_b]
  rfl

theorem vec_a (w : World) (bl : Nat) (h : bl = w.heap.size) : VecAt (w.alloc (.cells #[.int .u16 1, .int .u64 3, .int .u16 2, .int .u64 1] 27)) (some ⟨bl, 0, none⟩) [(1, 3), (2, 1)] 2 2 := by
  subst h
  refine ⟨rfl, (fun h => by cases h), by decide, by decide, ⟨fit_a, fun _ => ⟨_, rfl, by simp, fun j u hu => ?_⟩⟩, by decide⟩
  rw [zero_add, World.cell?_alloc_new]
  simpa [dv] using hu
theorem vec_b (w : World) (bl : Nat) (h : bl = w.heap.size) : VecAt (w.alloc (.cells #[.int .u16 2, .int .u64 4] 27)) (some ⟨bl, 0, none⟩) [(2, 4)] 1 1 := by
  subst h
  refine ⟨rfl, (fun h => by cases h), by decide, by decide, ⟨fit_b, fun _ => ⟨_, rfl, by simp, fun j u hu => ?_⟩⟩, by decide⟩
  rw [zero_add, World.cell?_alloc_new]
  simpa [dv] using hu
theorem vec_c (w : World) (bl : Nat) (h : bl = w.heap.size) : VecAt (w.alloc (.cells #[.int .u16 1, .int .u64 3, .int .u16 2, .int .u64 4] 27)) (some ⟨bl, 0, none⟩) [(1, 3), (2, 4)] 2 2 := by
  subst h
  refine ⟨rfl, (fun h => by cases h), by decide, by decide, ⟨by unfold Fit; decide, fun _ => ⟨_, rfl, by simp, fun j u hu => ?_⟩⟩, by decide⟩
  rw [zero_add, World.cell?_alloc_new]
  simpa [dv] using hu
/-- the vector behind its first dot. -/
theorem vec_d {w : World} {b c : Nat} (h : VecAt w (some ⟨b, 0, none⟩) [(1, 3), (2, 1)] 2 c) : VecAt w (some ⟨b, 2, none⟩) [(2, 1)] 1 1 := by
  refine ⟨rfl, (fun h => by cases h), by decide, by decide, ⟨by unfold Fit; decide, fun _ => ⟨_, rfl, ?_, fun j u hu => ?_⟩⟩, by decide⟩
  · obtain ⟨ad, e, hB, _⟩ := h.dots.2 (by decide)
    cases e
    exact hB
  · obtain ⟨ad, e, hB, hc⟩ := h.dots.2 (by decide)
    cases e
    have h2 := hc (j + 2) u (by simpa [dv] using hu)
    rw [zero_add] at h2
    rw [show (⟨b, 2, none⟩ : Addr).add j = ⟨b, j + 2, none⟩ from by unfold Addr.add; split <;> simp_all <;> omega]
    exact h2
theorem below_new2 (w : World) (o1 o2 : Obj) : Below w.heap.size w ((w.alloc o1).alloc o2) := (below_new w o1).alloc (below_new w o1).size o2
set_option maxHeartbeats 4000000 in
theorem works_any (P : PVec) (w : World) : Calls Try.prog 8 #[] w fun e w' => e = .returned (.bool true) ∧ Below w.heap.size w w' := by
  have HB : Hid (Below w.heap.size w ((w.alloc (.cells #[.int .u16 1, .int .u64 3, .int .u16 2, .int .u64 1] 27)).alloc (.cells #[.int .u16 2, .int .u64 4] 27))) := below_new2 _ _ _
  have VA := (vec_a w _ rfl).up (below_new _ (.cells #[.int .u16 2, .int .u64 4] 27))
  have VB := vec_b (w.alloc (.cells #[.int .u16 1, .int .u64 3, .int .u16 2, .int .u64 1] 27)) (w.heap.size + 1) (by simp)
  go_enter Try.func8, Try.ntmps8
  go_wp2_with fail
  generalize hw0 : (w.alloc (.cells #[.int .u16 1, .int .u64 3, .int .u16 2, .int .u64 1] 27)).alloc (.cells #[.int .u16 2, .int .u64 4] 27) = W0 at *
  clear hw0
  have A19 := fun W (hW : Below W0.heap.size W0 W) => made hW (fit_join fit_a fit_b) (short_join _ _) (P.join W _ _ _ _ _ _ _ _ (VA.up hW) (VB.up hW))
  have A20 := fun W (hW : Below W0.heap.size W0 W) => made hW (fit_meet fit_a fit_b) (short_meet _ _) (P.meet W _ _ _ _ _ _ _ _ (VA.up hW) (VB.up hW))
  have A22 := fun W (hW : Below W0.heap.size W0 W) => later hW (P.order W _ _ _ _ _ _ _ _ (VA.up hW) (VB.up hW))
  have A24 := fun W (hW : Below W0.heap.size W0 W) => later hW (P.lack W _ _ _ _ _ _ _ _ (VA.up hW) (VB.up hW))
  rw [ex_order] at A22
  rw [ex_lack, show ((3 : Nat) : Int) = 3 from rfl] at A24
  rw [ex_join] at A19
  rw [ex_meet] at A20
  have VD := vec_d VA
  clear VB
  go_region_held3 (fun _ => True) (trivial) (first
    | (go_at_call 19; (with_reducible refine (A19 _ ?_).mono ?_); (focus (repeat (first | exact Below.refl _ _ | assumption | apply bel_drew | apply bel_alloc))); rintro e V ⟨A, n, c, rfl, hA, bv, bv2⟩)
    | (go_at_call 20; (with_reducible refine (A20 _ ?_).mono ?_); (focus (repeat (first | exact Below.refl _ _ | assumption | apply bel_drew | apply bel_alloc))); rintro e V' ⟨A', n', c', rfl, hA', bv', bv2'⟩)
    | (go_at_call 12; (with_reducible refine (same_true W0 _ _ _ [(1, 3), (2, 4)] _ _ _ _ ?_ ?_ ?_).mono ?_); (focus (repeat (first | exact Below.refl _ _ | assumption | apply bel_drew | apply bel_alloc))); (focus (first | exact hA | exact hA.up (below_new _ _))); (focus (first | exact vec_c _ _ rfl | exact VecAt.up (vec_c W0 _ rfl) bv2 | exact VecAt.up (vec_c W0.drew _ rfl) bv2)); rintro e V ⟨rfl, bv⟩)
    | (go_at_call 12; (with_reducible refine (same_true W0 _ _ _ [(2, 1)] _ _ _ _ ?_ ?_ ?_).mono ?_); (focus (repeat (first | exact Below.refl _ _ | assumption | apply bel_drew | apply bel_alloc))); (focus (exact hA')); (focus (first | exact VD.up bv')); rintro e V ⟨rfl, bv⟩)
    | (go_at_call 22; (with_reducible refine (A22 _ ?_).mono ?_); (focus (repeat (first | exact Below.refl _ _ | assumption | apply bel_drew | apply bel_alloc))); rintro e V ⟨rfl, bv⟩)
    | (go_at_call 24; (with_reducible refine (A24 _ ?_).mono ?_); (focus (repeat (first | exact Below.refl _ _ | assumption | apply bel_drew | apply bel_alloc))); rintro e V ⟨rfl, bv⟩))
  all_goals
    go_wp2
    go_ret
    exact ⟨rfl, HB.out.trans (bv.mono HB.out.size)⟩
end Go.Proofs.Ytbpmbjpepjndaaa.Dt
