/- The contract of slices.SortFunc as 'inOrder' calls it: the same parts, in the order of their devices. Condition: fewer than 2^62 parts. -/
import Derived.Test.YtegclhgfibfanaaGreatMPCShelf
import Derived.Test.YtegclhgfibfanaaGreatKM
namespace Go.Proofs.YtegclhgfibfanaaGreat.Cx
open Go.ChangeShapes Go.WideShapes Go.ChangeAt Go.RowKit Go.Shelf
set_option linter.unusedVariables false
set_option maxRecDepth 4000

theorem nanP_any (w : World) (x : Nat) : Calls Tryz.prog 84 #[.int .u16 (x : Int)] w fun e w' => e = .returned (.bool false) ∧ w' = w := by
  have h : ((x : Int) != (x : Int)) = false := by rw [bne_eq_false_iff_eq]
  generalize ((x : Nat) : Int) = y at *
  go_enter Tryz.func84, Tryz.ntmps84
  go_wp2
  go_ret
  exact ⟨rfl, rfl⟩
def cfP (x y : PV) : Int := Lib.compareInt x.dev y.dev
theorem compareP_any (w : World) (x y : Nat) : Calls Tryz.prog 61 #[.int .u16 (x : Int), .int .u16 (y : Int)] w fun e w' => e = .returned (.int .i64 (Lib.compareInt x y)) ∧ w' = w := by
  have hx := fun W => nanP_any W x
  have hy := fun W => nanP_any W y
  unfold Lib.compareInt
  by_cases h1 : (x : Int) < y
  · rw [if_pos h1]
    generalize ((x : Nat) : Int) = x at *
    generalize ((y : Nat) : Int) = y at *
    go_enter Tryz.func61, Tryz.ntmps61
    go_wp2_with fail
    refine (hx _).mono ?_
    rintro e w1 ⟨rfl, rfl⟩
    go_wp2_with fail
    refine (hy _).mono ?_
    rintro e w1 ⟨rfl, rfl⟩
    go_wp2
    go_ret
    exact ⟨rfl, rfl⟩
  · rw [if_neg h1]
    have d1 : decide ((x : Int) < y) = false := decide_eq_false h1
    by_cases h2 : (x : Int) > y
    · rw [if_pos h2]
      have d2 : decide ((y : Int) < x) = true := decide_eq_true h2
      clear h1
      generalize ((x : Nat) : Int) = x at *
      generalize ((y : Nat) : Int) = y at *
      go_enter Tryz.func61, Tryz.ntmps61
      go_wp2_with fail
      refine (hx _).mono ?_
      rintro e w1 ⟨rfl, rfl⟩
      go_wp2_with fail
      refine (hy _).mono ?_
      rintro e w1 ⟨rfl, rfl⟩
      go_wp2
      go_ret
      exact ⟨rfl, rfl⟩
    · rw [if_neg h2]
      have d2 : decide ((y : Int) < x) = false := decide_eq_false h2
      clear h1 h2
      generalize ((x : Nat) : Int) = x at *
      generalize ((y : Nat) : Int) = y at *
      go_enter Tryz.func61, Tryz.ntmps61
      go_wp2_with fail
      refine (hx _).mono ?_
      rintro e w1 ⟨rfl, rfl⟩
      go_wp2_with fail
      refine (hy _).mono ?_
      rintro e w1 ⟨rfl, rfl⟩
      go_wp2
      go_ret
      exact ⟨rfl, rfl⟩

/-- a part's two cells. -/
def encP (p : PV) : List Value := [.int .u16 (p.dev : Int), .slice p.adr p.len p.cap]
instance : Inhabited PV := ⟨⟨0, none, 0, 0⟩⟩
theorem closureP_any (x y : PV) (W : World) : Calls Tryz.prog 60 #[.agg #[.int .u16 (x.dev : Int), .slice x.adr x.len x.cap], .agg #[.int .u16 (y.dev : Int), .slice y.adr y.len y.cap]] W fun e w' => e = .returned (.int .i64 (cfP x y)) ∧ ∃ q os', w' = Sort.grow (W.drewN q) os' := by
  have hcon : ∀ W', Calls Tryz.prog 61 #[.int .u16 (x.dev : Int), .int .u16 (y.dev : Int)] W' fun e w' => e = .returned (.int .i64 (cfP x y)) ∧ w' = W' := fun W' => compareP_any W' x.dev y.dev
  generalize cfP x y = r at hcon ⊢
  go_enter Tryz.func60, Tryz.ntmps60
  go_wp2_with (go_at_call 61; refine (hcon _).mono ?_; rintro e w' ⟨rfl, rfl⟩)
  go_ret
  exact ⟨rfl, 0, _, by rw [Sort.alloc_eq_grow, Sort.alloc_eq_grow, Sort.grow_grow]; rfl⟩
theorem ltP (x y : PV) : ltOf cfP x y = decide (x.dev < y.dev) := by
  unfold ltOf cfP Lib.compareInt
  by_cases h1 : (x.dev : Int) < y.dev
  · have : x.dev < y.dev := by omega
    simp [this]
  · by_cases h2 : (y.dev : Int) < x.dev
    · have h3 : ¬ x.dev < y.dev := by omega
      have h4 : y.dev < x.dev := by omega
      simp [h3, h4]
    · have h3 : ¬ x.dev < y.dev := by omega
      have h4 : ¬ y.dev < x.dev := by omega
      simp [h3, h4]
theorem swoP : Sort.SWO (ltOf cfP) where
  irrefl x := by rw [ltP]; simp
  trans x y z h1 h2 := by rw [ltP] at *; simp at *; omega
  ntrans x y z h1 h2 := by rw [ltP] at *; simp at *; omega

theorem flat_cv (l : List PV) (j : Nat) (hj : j < l.length * 2) : (cv l)[j]? = some (Sort.flatK encP 2 l.toArray)[j]! := by
  rw [Sort.get_flatK _ _ _ _ (by simpa using hj)]
  have hk : j / 2 < l.length := by omega
  have hg : l[j / 2]? = some l[j / 2] := List.getElem?_eq_getElem hk
  obtain ⟨g1, g2⟩ := cv_get hg
  have e : l.toArray[j / 2]! = l[j / 2] := by rw [getElem!_pos _ _ (by simpa using hk)]; simp
  rw [e]
  rcases Nat.mod_two_eq_zero_or_one j with h | h
  · rw [h]
    have : j / 2 * 2 = j := by omega
    rw [this] at g1
    simpa [encP] using g1
  · rw [h]
    have : j / 2 * 2 + 1 = j := by omega
    rw [this] at g2
    simpa [encP] using g2
theorem lenP (n : Nat) (hn : n < 4611686018427387904) (w : World) : Calls Tryz.prog 83 #[.int .u64 (n : Int)] w fun e w' => e = .returned (.int .i64 (Lib.bitLen n : Nat)) ∧ w' = w := by
  have h := Any.bits_Len (SlLaysF0.n15.bits (P := Tryz.prog) (ρ := Tryz.sortP_ren) { Tryz.sortP with }) (n : Int) w (by omega) (by omega)
  change Calls Tryz.prog 83 _ _ _ at h
  rwa [Int.toNat_natCast] at h
/-- the sorting itself, to the element. -/
theorem sortfP (g cap : Nat) (d : Array PV) (w : World) (hH : Sort.HoldsK encP 2 w g 0 d) (hlt : g < w.heap.size) (hsz : d.size < 4611686018427387904) :
    Calls Tryz.prog 59 #[.slice (some ⟨g, 0, none⟩) d.size cap, .func (.func 60) #[] #[]] w fun e w' =>
      e = .returned (.tuple #[]) ∧ ∃ d' n os, Sort.PermIn 0 d.size d d' ∧ Sort.SortedIn (ltOf cfP) 0 d.size d' ∧ w' = sortWorldK encP 2 w g 0 n d' os := by
  have eg : ∀ args w, (callFunc 60 args).run Tryz.prog w = .ok (.enter 60 args) w := enters_of Tryz.func60 (by kernel_rfl) rfl
  have hlim : Lib.bitLen d.size < 4611686018427387904 := Nat.lt_of_le_of_lt (Lib.bitLen_le d.size 62 (by omega) (by omega)) (by omega)
  have hp := AnyQ.pdqsortCmpFunc_all Tryz.sortP 2 Tryz.isAgg49 Tryz.sizeOf49 encP cfP 60 #[] swoP g 0 cap d w eg (fun m os dk _ x y => closureP_any x y _) ⟨fun _ => rfl, fun x v hv => by simp [encP] at hv; rcases hv with rfl | rfl <;> rfl, hH, hlt⟩ (d.size + 1) 0 d.size (Lib.bitLen d.size) d w (by omega) rfl (SWK.start hH) (Nat.zero_le _) (Nat.le_refl _) hsz hlim (Or.inl rfl)
  change Calls Tryz.prog 82 _ _ _ at hp
  have hl := lenP d.size hsz w
  have wr : IntKind.u64.wrap (d.size : Int) = d.size := by simp [IntKind.wrap, IntKind.bits, IntKind.signed]; omega
  have hfin := Sort.pdq_sorts (ltOf cfP) swoP d 0 d.size (Lib.bitLen d.size) true true (Nat.zero_le _) (Nat.le_refl _) (Or.inl rfl)
  clear hH
  go_enter Tryz.func59, Tryz.ntmps59
  go_wp2_with (first | (go_at_call 83; refine hl.mono ?_; rintro e w' ⟨rfl, rfl⟩) | (go_at_call 82; refine hp.mono ?_; rintro e w' ⟨rfl, n, os, rfl⟩))
  go_end0
  exact ⟨rfl, _, n, os, hfin.1, hfin.2, rfl⟩
theorem sortP_some (w : World) (B g cap n : Nat) (d : List PV) (hn : d.length = n) (h62 : n < 4611686018427387904) (h : w.ownsRow B 49 2 (.slice (some ⟨g, 0, none⟩) n cap) n (cv d)) :
    Calls Tryz.prog 59 #[.slice (some ⟨g, 0, none⟩) n cap, .func (.func 60) #[] #[]] w fun e w' => e = .returned (.tuple #[]) ∧ ∃ m : List PV, m.Perm d ∧ m.Pairwise (fun p q => p.dev ≤ q.dev) ∧ w'.ownsRow B 49 2 (.slice (some ⟨g, 0, none⟩) n cap) n (cv m) ∧ w.grownBy w' (some g) := by
  subst hn
  obtain ⟨hlen, ⟨hz, _⟩ | ⟨g', cap', cur, e, hB, hheap, hle, hmx, hsz, htk⟩⟩ := h
  · cases hz
  · cases e
    have hlt : g < w.heap.size := (Array.getElem?_eq_some_iff.1 hheap).1
    have hcell : ∀ j, j < d.length * 2 → cur[j]? = (cv d)[j]? := fun j hj => by
      rw [← htk, List.getElem?_take, if_pos hj]
      simp
    have hH : Sort.HoldsK encP 2 w g 0 d.toArray := fun j hj => by
      have hj' : j < d.length * 2 := by simpa using hj
      refine ⟨?_, by simp [World.frozen?, hheap]⟩
      rw [Nat.zero_add, show id (Sort.flatK encP 2 d.toArray)[j]! = (Sort.flatK encP 2 d.toArray)[j]! from rfl, ← flat_cv d j hj', ← hcell j hj']
      simp [World.cell?, hheap]
    have hcon := sortfP g cap d.toArray w hH hlt (by simpa using h62)
    rw [List.size_toArray] at hcon
    refine hcon.mono ?_
    rintro e w' ⟨rfl, d', q, os, hp, hs, rfl⟩
    have h1 : d'.size = d.length := by simpa using hp.1
    refine ⟨rfl, d'.toList, ?_, ?_, ?_, ?_⟩
    · have h3 := hp.2.2
      have e1 : d'.extract 0 d.length = d' := by rw [← h1]; simp
      have e2 : d.toArray.extract 0 d.length = d.toArray := by simp
      rw [e1, e2] at h3
      exact h3
    · refine List.pairwise_iff_getElem.2 fun i j hi hj hij => ?_
      rw [Array.length_toList] at hi hj
      have := hs i j (Nat.zero_le _) hij (by omega)
      rw [ltP, getElem!_pos d' j hj, getElem!_pos d' i hi] at this
      simpa using this
    · refine ⟨by rw [cv_length, Array.length_toList, h1], .inr ⟨g, cap, Sort.putCells id 0 (Sort.flatK encP 2 d') cur, rfl, hB, ?_, hle, hmx, by simp [Sort.putCells, hsz], ?_⟩⟩
      · show ((w.heap.modify g (Sort.onCells (Sort.putCells id 0 (Sort.flatK encP 2 d')))) ++ os)[g]? = _
        rw [Array.getElem?_append_left (by simpa using hlt), Array.getElem?_modify, if_pos rfl, hheap]
        rfl
      · apply List.ext_getElem?
        intro j
        rw [List.getElem?_take]
        by_cases hj : j < d.length * 2
        · rw [if_pos hj]
          have hf := flat_cv d'.toList j (by rw [Array.length_toList, h1]; exact hj)
          rw [Array.toArray_toList] at hf
          rw [hf]
          have hc : cur[j]? = some cur[j] := Array.getElem?_eq_getElem (by omega)
          simp [Sort.putCells, hc, h1, hj]
        · rw [if_neg hj]
          exact (List.getElem?_eq_none (by rw [cv_length, Array.length_toList, h1]; omega)).symm
    · refine ⟨rfl, rfl, rfl, ?_, fun k hk hne => ?_⟩
      · show w.heap.size ≤ ((w.heap.modify g _) ++ os).size
        simp
      · show ((w.heap.modify g _) ++ os)[k]? = _
        rw [Array.getElem?_append_left (by simpa using hk), Array.getElem?_modify, if_neg (fun e => hne (by rw [e]))]
theorem insP_nil (w : World) (fv : Value) : Calls Tryz.prog 94 #[.slice none 0 0, .int .i64 0, .int .i64 0, fv] w fun e w' => e = .returned (.tuple #[]) ∧ w' = w := by
  go_enter Tryz.func94, Tryz.ntmps94
  go_wp2
  refine wp_loop_rounds 1 ?_
  rw [rounds_succ]
  go_wp2
  go_end0
  exact ⟨rfl, rfl⟩
theorem pdqP_nil (w : World) (lim : Int) (fv : Value) : Calls Tryz.prog 82 #[.slice none 0 0, .int .i64 0, .int .i64 0, .int .i64 lim, fv] w fun e w' => e = .returned (.tuple #[]) ∧ w' = w := by
  have hi := fun W => insP_nil W fv
  go_enter Tryz.func82, Tryz.ntmps82
  go_wp2
  refine wp_loop_rounds 1 ?_
  rw [rounds_succ]
  go_wp2_with (go_at_call 94; refine (hi _).mono ?_; rintro e w' ⟨rfl, rfl⟩)
  (try simp only [Exit.inBlock, Exit.then]); refine bodyPost_ret (results_none rfl _ _ _) rfl ?_
  exact ⟨rfl, rfl⟩
theorem sortP_nil (w : World) : Calls Tryz.prog 59 #[.slice none 0 0, .func (.func 60) #[] #[]] w fun e w' => e = .returned (.tuple #[]) ∧ w' = w := by
  have hl := fun W => lenP 0 (by decide) W
  have hp := fun lim W => pdqP_nil W lim (.func (.func 60) #[] #[])
  go_enter Tryz.func59, Tryz.ntmps59
  go_wp2_with (first | (go_at_call 83; refine (hl _).mono ?_; rintro e w' ⟨rfl, rfl⟩) | (go_at_call 82; refine (hp _ _).mono ?_; rintro e w' ⟨rfl, rfl⟩))
  go_end0
  exact ⟨rfl, rfl⟩
theorem psorts : SortsP := by
  intro W B A k c ps hk h62 ho
  cases A with
  | none =>
    obtain ⟨_, _, h3⟩ := Dt.own_len ho
    obtain ⟨rfl, rfl⟩ := h3 rfl
    refine (sortP_nil W).mono ?_
    rintro e w' ⟨rfl, rfl⟩
    obtain rfl := List.eq_nil_of_length_eq_zero hk
    exact ⟨rfl, [], List.Perm.refl _, List.Pairwise.nil, ho, Ru.turn_refl _ _⟩
  | some ad =>
    have hsh : ∃ g, ad = ⟨g, 0, none⟩ := by
      rcases ho.2 with ⟨h, _⟩ | ⟨g, cap, cur, h, _⟩
      · cases h
      · cases h; exact ⟨g, rfl⟩
    obtain ⟨g, rfl⟩ := hsh
    exact sortP_some W B g c k ps hk h62 ho
end Go.Proofs.YtegclhgfibfanaaGreat.Cx
