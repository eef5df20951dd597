/- Words and contracts that the proofs of this seat stand on, part 22 of 28. -/
import Derived.Test.YtgaegfddobpomaaGreatFrU
import Derived.Test.YtgaegfddobpomaaGreatFrN
import Derived.Test.YtgaegfddobpomaaGreatFrG
import Derived.Deep.SlicePairs

namespace Go.Proofs.YtgaegfddobpomaaGreat.Cx
open Go.ChangeShapes Go.WideShapes Go.ChangeAt Go.RowKit Go.Shelf
set_option linter.unusedVariables false
set_option maxRecDepth 4000
theorem nanP_any (w : World) (x : Nat) : Calls Tryz.prog 164 #[.int .u16 (x : Int)] w fun e w' => e = .returned (.bool false) ∧ w' = w := by
 have h : ((x : Int) != (x : Int)) = false := by rw [bne_eq_false_iff_eq]
 generalize ((x : Nat) : Int) = y at *
 go_enter Tryz.func164, Tryz.ntmps164
 go_wp2
 go_ret
 exact ⟨rfl, rfl⟩
def cfP (x y : PV) : Int := Lib.compareInt x.dev y.dev
theorem compareP_any (w : World) (x y : Nat) : Calls Tryz.prog 131 #[.int .u16 (x : Int), .int .u16 (y : Int)] w fun e w' => e = .returned (.int .i64 (Lib.compareInt x y)) ∧ w' = w := by
 have hx := fun W => nanP_any W x
 have hy := fun W => nanP_any W y
 unfold Lib.compareInt
 by_cases h1 : (x : Int) < y
 · rw [if_pos h1]
   generalize ((x : Nat) : Int) = x at *
   generalize ((y : Nat) : Int) = y at *
   go_enter Tryz.func131, Tryz.ntmps131
   go_wp2_with fail
   refine (hx _).mono ?_
   rintro e w1 ⟨rfl, rfl⟩
   go_wp2_with fail
   refine (hy _).mono ?_
   rintro e w1 ⟨rfl, rfl⟩
   go_wp2
   go_ret
   exact ⟨rfl, rfl⟩
 · rw [if_neg h1]
   have d1 : decide ((x : Int) < y) = false := decide_eq_false h1
   by_cases h2 : (x : Int) > y
   · rw [if_pos h2]
     have d2 : decide ((y : Int) < x) = true := decide_eq_true h2
     clear h1
     generalize ((x : Nat) : Int) = x at *
     generalize ((y : Nat) : Int) = y at *
     go_enter Tryz.func131, Tryz.ntmps131
     go_wp2_with fail
     refine (hx _).mono ?_
     rintro e w1 ⟨rfl, rfl⟩
     go_wp2_with fail
     refine (hy _).mono ?_
     rintro e w1 ⟨rfl, rfl⟩
     go_wp2
     go_ret
     exact ⟨rfl, rfl⟩
   · rw [if_neg h2]
     have d2 : decide ((y : Int) < x) = false := decide_eq_false h2
     clear h1 h2
     generalize ((x : Nat) : Int) = x at *
     generalize ((y : Nat) : Int) = y at *
     go_enter Tryz.func131, Tryz.ntmps131
     go_wp2_with fail
     refine (hx _).mono ?_
     rintro e w1 ⟨rfl, rfl⟩
     go_wp2_with fail
     refine (hy _).mono ?_
     rintro e w1 ⟨rfl, rfl⟩
     go_wp2
     go_ret
     exact ⟨rfl, rfl⟩
def encP (p : PV) : List Value := [.int .u16 (p.dev : Int), .slice p.adr p.len p.cap]
instance : Inhabited PV := ⟨⟨0, none, 0, 0⟩⟩
theorem closureP_any (x y : PV) (W : World) : Calls Tryz.prog 130 #[.agg #[.int .u16 (x.dev : Int), .slice x.adr x.len x.cap], .agg #[.int .u16 (y.dev : Int), .slice y.adr y.len y.cap]] W fun e w' => e = .returned (.int .i64 (cfP x y)) ∧ ∃ q os', w' = Sort.grow (W.drewN q) os' := by
 have hcon : ∀ W', Calls Tryz.prog 131 #[.int .u16 (x.dev : Int), .int .u16 (y.dev : Int)] W' fun e w' => e = .returned (.int .i64 (cfP x y)) ∧ w' = W' := fun W' => compareP_any W' x.dev y.dev
 generalize cfP x y = r at hcon ⊢
 go_enter Tryz.func130, Tryz.ntmps130
 go_wp2_with (go_at_call 131; refine (hcon _).mono ?_; rintro e w' ⟨rfl, rfl⟩)
 go_ret
 exact ⟨rfl, 0, _, by rw [Sort.alloc_eq_grow, Sort.alloc_eq_grow, Sort.grow_grow]; rfl⟩
theorem ltP (x y : PV) : ltOf cfP x y = decide (x.dev < y.dev) := by
 unfold ltOf cfP Lib.compareInt
 by_cases h1 : (x.dev : Int) < y.dev
 · have : x.dev < y.dev := by omega
   simp [this]
 · by_cases h2 : (y.dev : Int) < x.dev
   · have h3 : ¬ x.dev < y.dev := by omega
     have h4 : y.dev < x.dev := by omega
     simp [h3, h4]
   · have h3 : ¬ x.dev < y.dev := by omega
     have h4 : ¬ y.dev < x.dev := by omega
     simp [h3, h4]
theorem swoP : Sort.SWO (ltOf cfP) where
 irrefl x := by rw [ltP]; simp
 trans x y z h1 h2 := by rw [ltP] at *; simp at *; omega
 ntrans x y z h1 h2 := by rw [ltP] at *; simp at *; omega
theorem flat_cv (l : List PV) (j : Nat) (hj : j < l.length * 2) : (cv l)[j]? = some (Sort.flatK encP 2 l.toArray)[j]! := by
 rw [Sort.get_flatK _ _ _ _ (by simpa using hj)]
 have hk : j / 2 < l.length := by omega
 have hg : l[j / 2]? = some l[j / 2] := List.getElem?_eq_getElem hk
 obtain ⟨g1, g2⟩ := cv_get hg
 have e : l.toArray[j / 2]! = l[j / 2] := by rw [getElem!_pos _ _ (by simpa using hk)]; simp
 rw [e]
 rcases Nat.mod_two_eq_zero_or_one j with h | h
 · rw [h]
   have : j / 2 * 2 = j := by omega
   rw [this] at g1
   simpa [encP] using g1
 · rw [h]
   have : j / 2 * 2 + 1 = j := by omega
   rw [this] at g2
   simpa [encP] using g2
theorem lenP (n : Nat) (hn : n < 4611686018427387904) (w : World) : Calls Tryz.prog 163 #[.int .u64 (n : Int)] w fun e w' => e = .returned (.int .i64 (Lib.bitLen n : Nat)) ∧ w' = w := by
 have h := Any.bits_Len (SlLaysF0.n15.bits (P := Tryz.prog) (ρ := Tryz.sortP_ren) { Tryz.sortP with }) (n : Int) w (by omega) (by omega)
 change Calls Tryz.prog 163 _ _ _ at h
 rwa [Int.toNat_natCast] at h
theorem sortfP (g cap : Nat) (d : Array PV) (w : World) (hH : Sort.HoldsK encP 2 w g 0 d) (hlt : g < w.heap.size) (hsz : d.size < 4611686018427387904) :
   Calls Tryz.prog 129 #[.slice (some ⟨g, 0, none⟩) d.size cap, .func (.func 130) #[] #[]] w fun e w' =>
     e = .returned (.tuple #[]) ∧ ∃ d' n os, Sort.PermIn 0 d.size d d' ∧ Sort.SortedIn (ltOf cfP) 0 d.size d' ∧ w' = sortWorldK encP 2 w g 0 n d' os := by
 have eg : ∀ args w, (callFunc 130 args).run Tryz.prog w = .ok (.enter 130 args) w := enters_of Tryz.func130 (by kernel_rfl) rfl
 have hlim : Lib.bitLen d.size < 4611686018427387904 := Nat.lt_of_le_of_lt (Lib.bitLen_le d.size 62 (by omega) (by omega)) (by omega)
 have hp := AnyQ.pdqsortCmpFunc_all Tryz.sortP 2 Tryz.isAgg71 Tryz.sizeOf71 encP cfP 130 #[] swoP g 0 cap d w eg (fun m os dk _ x y => closureP_any x y _) ⟨fun _ => rfl, fun x v hv => by simp [encP] at hv; rcases hv with rfl | rfl <;> rfl, hH, hlt⟩ (d.size + 1) 0 d.size (Lib.bitLen d.size) d w (by omega) rfl (SWK.start hH) (Nat.zero_le _) (Nat.le_refl _) hsz hlim (Or.inl rfl)
 change Calls Tryz.prog 162 _ _ _ at hp
 have hl := lenP d.size hsz w
 have wr : IntKind.u64.wrap (d.size : Int) = d.size := by simp [IntKind.wrap, IntKind.bits, IntKind.signed]; omega
 have hfin := Sort.pdq_sorts (ltOf cfP) swoP d 0 d.size (Lib.bitLen d.size) true true (Nat.zero_le _) (Nat.le_refl _) (Or.inl rfl)
 clear hH
 go_enter Tryz.func129, Tryz.ntmps129
 go_wp2_with (first | (go_at_call 163; refine hl.mono ?_; rintro e w' ⟨rfl, rfl⟩) | (go_at_call 162; refine hp.mono ?_; rintro e w' ⟨rfl, n, os, rfl⟩))
 go_end0
 exact ⟨rfl, _, n, os, hfin.1, hfin.2, rfl⟩
theorem sortP_some (w : World) (B g cap n : Nat) (d : List PV) (hn : d.length = n) (h62 : n < 4611686018427387904) (h : w.ownsRow B 71 2 (.slice (some ⟨g, 0, none⟩) n cap) n (cv d)) :
   Calls Tryz.prog 129 #[.slice (some ⟨g, 0, none⟩) n cap, .func (.func 130) #[] #[]] w fun e w' => e = .returned (.tuple #[]) ∧ ∃ m : List PV, m.Perm d ∧ m.Pairwise (fun p q => p.dev ≤ q.dev) ∧ w'.ownsRow B 71 2 (.slice (some ⟨g, 0, none⟩) n cap) n (cv m) ∧ w.grownBy w' (some g) := by
 subst hn
 obtain ⟨hlen, ⟨hz, _⟩ | ⟨g', cap', cur, e, hB, hheap, hle, hmx, hsz, htk⟩⟩ := h
 · cases hz
 · cases e
   have hlt : g < w.heap.size := (Array.getElem?_eq_some_iff.1 hheap).1
   have hcell : ∀ j, j < d.length * 2 → cur[j]? = (cv d)[j]? := fun j hj => by
     rw [← htk, List.getElem?_take, if_pos hj]
     simp
   have hH : Sort.HoldsK encP 2 w g 0 d.toArray := fun j hj => by
     have hj' : j < d.length * 2 := by simpa using hj
     refine ⟨?_, by simp [World.frozen?, hheap]⟩
     rw [Nat.zero_add, show id (Sort.flatK encP 2 d.toArray)[j]! = (Sort.flatK encP 2 d.toArray)[j]! from rfl, ← flat_cv d j hj', ← hcell j hj']
     simp [World.cell?, hheap]
   have hcon := sortfP g cap d.toArray w hH hlt (by simpa using h62)
   rw [List.size_toArray] at hcon
   refine hcon.mono ?_
   rintro e w' ⟨rfl, d', q, os, hp, hs, rfl⟩
   have h1 : d'.size = d.length := by simpa using hp.1
   refine ⟨rfl, d'.toList, ?_, ?_, ?_, ?_⟩
   · have h3 := hp.2.2
     have e1 : d'.extract 0 d.length = d' := by rw [← h1]; simp
     have e2 : d.toArray.extract 0 d.length = d.toArray := by simp
     rw [e1, e2] at h3
     exact h3
   · refine List.pairwise_iff_getElem.2 fun i j hi hj hij => ?_
     rw [Array.length_toList] at hi hj
     have := hs i j (Nat.zero_le _) hij (by omega)
     rw [ltP, getElem!_pos d' j hj, getElem!_pos d' i hi] at this
     simpa using this
   · refine ⟨by rw [cv_length, Array.length_toList, h1], .inr ⟨g, cap, Sort.putCells id 0 (Sort.flatK encP 2 d') cur, rfl, hB, ?_, hle, hmx, by simp [Sort.putCells, hsz], ?_⟩⟩
     · show ((w.heap.modify g (Sort.onCells (Sort.putCells id 0 (Sort.flatK encP 2 d')))) ++ os)[g]? = _
       rw [Array.getElem?_append_left (by simpa using hlt), Array.getElem?_modify, if_pos rfl, hheap]
       rfl
     · apply List.ext_getElem?
       intro j
       rw [List.getElem?_take]
       by_cases hj : j < d.length * 2
       · rw [if_pos hj]
         have hf := flat_cv d'.toList j (by rw [Array.length_toList, h1]; exact hj)
         rw [Array.toArray_toList] at hf
         rw [hf]
         have hc : cur[j]? = some cur[j] := Array.getElem?_eq_getElem (by omega)
         simp [Sort.putCells, hc, h1, hj]
       · rw [if_neg hj]
         exact (List.getElem?_eq_none (by rw [cv_length, Array.length_toList, h1]; omega)).symm
   · refine ⟨rfl, rfl, rfl, ?_, fun k hk hne => ?_⟩
     · show w.heap.size ≤ ((w.heap.modify g _) ++ os).size
       simp
     · show ((w.heap.modify g _) ++ os)[k]? = _
       rw [Array.getElem?_append_left (by simpa using hk), Array.getElem?_modify, if_neg (fun e => hne (by rw [e]))]
theorem insP_nil (w : World) (fv : Value) : Calls Tryz.prog 177 #[.slice none 0 0, .int .i64 0, .int .i64 0, fv] w fun e w' => e = .returned (.tuple #[]) ∧ w' = w := by
 go_enter Tryz.func177, Tryz.ntmps177
 go_wp2
 refine wp_loop_rounds 1 ?_
 rw [rounds_succ]
 go_wp2
 go_end0
 exact ⟨rfl, rfl⟩
theorem pdqP_nil (w : World) (lim : Int) (fv : Value) : Calls Tryz.prog 162 #[.slice none 0 0, .int .i64 0, .int .i64 0, .int .i64 lim, fv] w fun e w' => e = .returned (.tuple #[]) ∧ w' = w := by
 have hi := fun W => insP_nil W fv
 go_enter Tryz.func162, Tryz.ntmps162
 go_wp2
 refine wp_loop_rounds 1 ?_
 rw [rounds_succ]
 go_wp2_with (go_at_call 177; refine (hi _).mono ?_; rintro e w' ⟨rfl, rfl⟩)
 (try simp only [Exit.inBlock, Exit.then]); refine bodyPost_ret (results_none rfl _ _ _) rfl ?_
 exact ⟨rfl, rfl⟩
theorem sortP_nil (w : World) : Calls Tryz.prog 129 #[.slice none 0 0, .func (.func 130) #[] #[]] w fun e w' => e = .returned (.tuple #[]) ∧ w' = w := by
 have hl := fun W => lenP 0 (by decide) W
 have hp := fun lim W => pdqP_nil W lim (.func (.func 130) #[] #[])
 go_enter Tryz.func129, Tryz.ntmps129
 go_wp2_with (first | (go_at_call 163; refine (hl _).mono ?_; rintro e w' ⟨rfl, rfl⟩) | (go_at_call 162; refine (hp _ _).mono ?_; rintro e w' ⟨rfl, rfl⟩))
 go_end0
 exact ⟨rfl, rfl⟩
theorem psorts : SortsP := by
 intro W B A k c ps hk h62 ho
 cases A with
 | none =>
   obtain ⟨_, _, h3⟩ := Dt.own_len ho
   obtain ⟨rfl, rfl⟩ := h3 rfl
   refine (sortP_nil W).mono ?_
   rintro e w' ⟨rfl, rfl⟩
   obtain rfl := List.eq_nil_of_length_eq_zero hk
   exact ⟨rfl, [], List.Perm.refl _, List.Pairwise.nil, ho, Ru.turn_refl _ _⟩
 | some ad =>
   have hsh : ∃ g, ad = ⟨g, 0, none⟩ := by
     rcases ho.2 with ⟨h, _⟩ | ⟨g, cap, cur, h, _⟩
     · cases h
     · cases h; exact ⟨g, rfl⟩
   obtain ⟨g, rfl⟩ := hsh
   exact sortP_some W B g c k ps hk h62 ho
end Go.Proofs.YtgaegfddobpomaaGreat.Cx

namespace Go.Proofs.YtgaegfddobpomaaGreat.Cx
open Go.ChangeShapes Go.WideShapes Go.ChangeAt Go.RowKit Go.Maps
set_option linter.unusedVariables false
set_option maxRecDepth 4000
theorem cpost_up {w W V : World} {m : List Part} {e : Ending} (hb : Below w.heap.size w W) (h : CtxPost W m e V) : CtxPost w m e V := by
 obtain ⟨A, n, c, ps, h1, h2, h3, h4, h5⟩ := h
 exact ⟨A, n, c, ps, h1, h2, Dt.own_less h3 hb.size, h4, hb.trans (h5.mono hb.size)⟩
theorem raw_short {a : List Part} {k : Nat} (h : Wide k a) (d : Nat) : (rawC a d).length ≤ k := by
 have q := raw_whole (fun _ => []) a d
 have q2 := h.2
 simp only [List.length_nil] at q
 show (rawF (fun _ => []) a d).length ≤ k
 omega
set_option maxHeartbeats 4000000 in
theorem pnorm_any (w : World) (A1 : Option Addr) (a : List Part) (n1 c1 : Nat) (h1 : CtxAt w A1 a n1 c1) (ha : Wide 268435456 a) :
   Calls Tryz.prog 69 #[.slice A1 n1 c1] w (CtxPost w (normC a)) := by
 have CB := pbydev_any w A1 a n1 c1 h1 ha
 have HT : Hid (Tells (fun d => Ru.nrm (rawC a d))) := Lib.hid (by rw [nrm_rawC]; exact tells_runs h1.fit)
 have HL := Lib.hid (fun d => raw_short ha d)
 have hn1 : n1 ≤ 268435456 := by rw [← h1.len]; exact ha.1
 rw [← norm_raw]
 clear h1 ha
 go_enter Tryz.func69, Tryz.ntmps69
 go_wp2_with fail
 refine CB.mono ?_
 rintro e w1 ⟨rfl, hM, hb⟩
 have CI := pinord_any psorts w1 _ _ _ _ hM.mapS HT.out (fun d => by have := HL.out d; omega) (by omega)
 have HB := Lib.hid hb
 clear CB hM hb
 go_wp2_with fail
 refine CI.mono ?_
 intro e w2 hp
 obtain ⟨A2, n2, c2, ps, rfl, h2⟩ := cpost_up HB.out hp
 have HP := Lib.hid h2
 clear hp h2 CI
 go_wp2
 go_ret
 exact ⟨A2, n2, c2, ps, rfl, HP.out⟩
theorem add_fit {a : List Part} {l : List Dot} (ha : FitC a) (hl : Dt.Fit l) (k d : Nat) : Ru.Fit (addF (rawC a) (l.take k) d) := by
 have : ∀ (l : List Dot), Dt.Fit l → ∀ f : Nat → List Run, (∀ d, Ru.Fit (f d)) → ∀ d, Ru.Fit (addF f l d) := fun l => by
   unfold addF
   induction l with
   | nil => intro _ f hf d; exact hf d
   | cons x l ih =>
     intro hl f hf d
     rw [List.foldl_cons]
     refine ih (fun y hy => hl y (List.mem_cons_of_mem _ hy)) _ (fun e => ?_) d
     unfold stepA
     split
     · show Ru.Fit (if e = x.1 then f x.1 ++ [(x.2, x.2)] else f e)
       split
       · intro r hr
         rcases List.mem_append.1 hr with hr | hr
         · exact hf _ r hr
         · obtain rfl := List.mem_singleton.1 hr
           have := (hl x (List.mem_cons_self ..)).2
           exact ⟨this, this⟩
       · exact hf e
     · exact hf e
 exact this _ (fun x hx => hl x (List.mem_of_mem_take hx)) _ (fun e => raw_fit ha e (fun r hr => by cases hr)) d
set_option maxHeartbeats 8000000 in
theorem padd_any (w : World) (A1 A2 : Option Addr) (a : List Part) (l : List Dot) (n1 n2 c1 c2 : Nat) (h1 : CtxAt w A1 a n1 c1) (h2 : DotsAt w A2 l n2 c2) (ha : Wide 268435456 a) (hn2 : n2 ≤ 268435456) :
   Calls Tryz.prog 47 #[.slice A1 n1 c1, .slice A2 n2 c2] w (CtxPost w (setC a (ofC l) 0)) := by
 have CB := pbydev_any w A1 a n1 c1 h1 ha
 have HD := Lib.hid h2.dots
 have HDL := Lib.hid h2.len
 have HT : Hid (Tells (fun d => Ru.nrm (addF (rawC a) l d))) := Lib.hid (tells_add h1.fit h2.fit)
 have HE : Hid (listC (fun d => Ru.nrm (addF (rawC a) l d)) = setC a (ofC l) 0) := Lib.hid (by rw [add_fin h1.fit h2.fit]; rfl)
 have HL : Hid (∀ k d, (addF (rawC a) (l.take k) d).length ≤ 268435456 + k) := Lib.hid (fun k d => by
   have q1 := add_len l (rawC a) k d
   have q2 := raw_short ha d
   omega)
 have HF := Lib.hid (add_fit h1.fit h2.fit)
 have hn1 : n1 ≤ 268435456 := by rw [← h1.len]; exact ha.1
 rw [← HE.out]
 clear h1 h2 ha HE
 go_enter Tryz.func47, Tryz.ntmps47
 go_wp2_with fail
 refine CB.mono ?_
 rintro e w0 ⟨rfl, hM, hb⟩
 have HM0 := Lib.hid hM
 have HB0 := Lib.hid hb
 clear CB hM hb
 go_wp2_with fail
 go_loopw [12] (fun i wr => ∃ k : Nat, k ≤ n2 ∧ i = .int .i64 (k : Int) ∧ MapO wr (w.heap.size + 1) w.heap.size (n1 + k) (addF (rawC a) (l.take k)) ∧ Below w.heap.size w wr) (fun i _ => n2 - (intOf i).toNat)
 case atStart => exact ⟨0, Nat.zero_le _, rfl, HM0.out, HB0.out⟩
 case round =>
   obtain ⟨k, hk, rfl, hmk, hg⟩ := hrel
   have HMK := Lib.hid hmk
   have HW := Lib.hid hg
   have hsz := hmk.lt
   clear hmk hg
   by_cases hlt : k < n2
   · obtain ⟨ad, x, rfl, hB, hlx, hx1, hx2, hcx⟩ := HD.out.cells (k := k) (by rw [HDL.out]; exact hlt)
     have HN := Lib.hid (add_next (f := rawC a) hlx)
     clear hlx
     obtain ⟨x1, x2⟩ := x
     dsimp only at hx1 hx2 hcx
     obtain ⟨d1, d2⟩ := hcx wr HW.out
     have CG := fun W => Dt.pgood_x W (x1, x2)
     have BX : Hid (Below wr.heap.size wr ((wr.alloc (.cells #[.int .u16 (x1 : Int), .int .u64 (x2 : Int)] 35)).alloc (.cells #[.int .u16 (x1 : Int), .int .u64 (x2 : Int)] 35))) := Lib.hid (bel_alloc _ (Dt.below_new _ _))
     have HXB := Lib.hid (Dt.box_at wr (x1, x2))
     clear hcx
     cases hmx : Dt.mayD (x1, x2) with
     | false =>
       have HS := Lib.hid (stepA_not (f := addF (rawC a) (l.take k)) hmx)
       rw [hmx] at CG
       clear hmx
       go_wp2_with fail
       refine (CG _).mono ?_
       rintro e w1 ⟨rfl, rfl⟩
       have HM2 := Lib.hid (((HMK.out.up BX.out).more (Nat.le_succ _)).turn (by rw [← HS.out, ← HN.out]))
       have HW2 := Lib.hid (HW.out.trans (BX.out.mono HW.out.size))
       clear d1 d2
       go_wp2
       go_roundw
       case rel => exact ⟨k + 1, by omega, by go_num, HM2.out, HW2.out⟩
       case measure => simp [intOf]; omega
     | true =>
       have HS : Hid ((fun e => if e = x1 then addF (rawC a) (l.take k) x1 ++ [(x2, x2)] else addF (rawC a) (l.take k) e) = addF (rawC a) (l.take (k + 1))) := Lib.hid (by rw [HN.out, ← stepA_put hmx])
       have HFN := Lib.hid (HF.out (k + 1) x1)
       have HEN : Hid (addF (rawC a) (l.take (k + 1)) x1 = addF (rawC a) (l.take k) x1 ++ [(x2, x2)]) := Lib.hid (by rw [← HS.out]; exact if_pos rfl)
       rw [HEN.out] at HFN
       rw [hmx] at CG
       clear hmx
       go_wp2_with fail
       refine (CG _).mono ?_
       rintro e w1 ⟨rfl, rfl⟩
       have hb2 : ((wr.alloc (.cells #[.int .u16 (x1 : Int), .int .u64 (x2 : Int)] 35)).alloc (.cells #[.int .u16 (x1 : Int), .int .u64 (x2 : Int)] 35)).heap.size = wr.heap.size + 2 := by simp
       have HBX : Hid (Below (wr.alloc (.cells #[.int .u16 (x1 : Int), .int .u64 (x2 : Int)] 35)).heap.size (wr.alloc (.cells #[.int .u16 (x1 : Int), .int .u64 (x2 : Int)] 35)) ((wr.alloc (.cells #[.int .u16 (x1 : Int), .int .u64 (x2 : Int)] 35)).alloc (.cells #[.int .u16 (x1 : Int), .int .u64 (x2 : Int)] 35))) := Lib.hid (Dt.below_new _ _)
       generalize hwb : (wr.alloc (.cells #[.int .u16 (x1 : Int), .int .u64 (x2 : Int)] 35)).alloc (.cells #[.int .u16 (x1 : Int), .int .u64 (x2 : Int)] 35) = wb at *
       have HXC : Hid (∀ V, Below wb.heap.size wb V → V.cell? ⟨wr.heap.size, 0, none⟩ = some (.int .u16 (x1 : Int)) ∧ V.cell? ⟨wr.heap.size, 1, none⟩ = some (.int .u64 (x2 : Int))) := Lib.hid (fun V hV => HXB.out V (HBX.out.trans (hV.mono HBX.out.size)))
       obtain ⟨d3, d4⟩ := HXC.out wb (Below.refl _ _)
       obtain ⟨A2', k2, c2', hA2, hk2, hlook, hstore⟩ := (HMK.out.up BX.out).look hx1
       obtain ⟨o1, ho1⟩ : ∃ o : Obj, o = .cells #[.int .u64 (x2 : Int), .int .u64 (x2 : Int)] 68 := ⟨_, rfl⟩
       have r1 := hlook wb (Ru.turn_refl _ _)
       have r2 := hlook wb.drew (bel_grown ((Below.refl _ _).drew) _)
       have r3 := hlook (wb.alloc o1) (bel_grown (Dt.below_new _ _) _)
       have r4 := hlook (wb.alloc o1).drew (bel_grown ((Dt.below_new _ _).drew) _)
       have BD : Hid (Below wb.heap.size wb (wb.alloc o1).drew) := Lib.hid ((Dt.below_new _ _).drew)
       have HO2 := Lib.hid (Dt.own_kept hA2 BD.out)
       have hk2' : k2 ≤ 536870912 := by rw [← hk2]; have := HL.out k x1; omega
       have HRL : Hid (RunsAt (wb.alloc o1) (some ⟨wr.heap.size + 2, 0, none⟩) [(x2, x2)] 1 1) := Lib.hid (by rw [ho1]; exact run_lit wb _ x2 x2 hb2.symm hx2 hx2)
       have HBL : Hid (Ru.Lies (wb.alloc o1).drew (wb.alloc o1).drew.heap.size (some ⟨wr.heap.size + 2, 0, none⟩) (Ru.rv [(x2, x2)])) := Lib.hid ((HRL.out.up ((Below.refl _ _).drew)).runs.2)
       have HOL := Lib.hid (fun j hj => (hA2.lt j hj))
       have HST := Lib.hid hstore
       have HWB := Lib.hid (HW.out.trans (BX.out.mono HW.out.size))
       have HW1 := Lib.hid (HWB.out.trans (BD.out.mono HWB.out.size))
       have hBsz : w.heap.size + 1 ≤ (wb.alloc o1).drew.heap.size := by have := BD.out.size; omega
       have HGD : Hid (wb.grownBy (wb.alloc o1).drew (Value.slice A2' k2 c2').ownBlock) := Lib.hid (bel_grown BD.out _)
       have HSZ : Hid (wb.heap.size ≤ (wb.alloc o1).drew.heap.size) := Lib.hid BD.out.size
       have HKC : Hid (∀ w5 : World, World.grownBy (wb.alloc o1).drew w5 (Value.slice A2' k2 c2').ownBlock → w5.cell? ⟨wr.heap.size, 0, none⟩ = some (.int .u16 (x1 : Int)) ∧ w5.cell? ⟨wr.heap.size, 1, none⟩ = some (.int .u64 (x2 : Int))) := Lib.hid (fun w5 hg5 => by
         have hne : some wr.heap.size ≠ (Value.slice A2' k2 c2').ownBlock := fun e => by
           obtain ⟨A9, k9, c9, hA9, _, hl9, _⟩ := HMK.out.look hx1
           have e9 := hl9 wb (bel_grown BX.out _)
           rw [r1] at e9
           have e8 : Value.slice A2' k2 c2' = Value.slice A9 k9 c9 := by injection e9
           rw [e8] at e
           have := (hA9.lt wr.heap.size e.symm).2
           omega
         have hl2 : wr.heap.size < (wb.alloc o1).drew.heap.size := by have := BD.out.size; omega
         obtain ⟨q1, q2⟩ := HXC.out _ BD.out
         exact ⟨(hg5.cell_far _ hl2 hne).trans q1, (hg5.cell_far _ hl2 hne).trans q2⟩)
       have HK6 : Hid (∀ w5 w6 : World, World.grownBy (wb.alloc o1).drew w5 (Value.slice A2' k2 c2').ownBlock → w5.grownBy w6 (some w.heap.size) → w6.cell? ⟨wr.heap.size, 0, none⟩ = some (.int .u16 (x1 : Int)) ∧ w6.cell? ⟨wr.heap.size, 1, none⟩ = some (.int .u64 (x2 : Int))) := Lib.hid (fun w5 w6 hg5 hg6 => by
         obtain ⟨q1, q2⟩ := HKC.out w5 hg5
         have hl2 : wr.heap.size < w5.heap.size := by have := hg5.size; have := BD.out.size; omega
         have hne : some wr.heap.size ≠ some w.heap.size := fun e => by injection e with e; omega
         exact ⟨(hg6.cell_far _ hl2 hne).trans q1, (hg6.cell_far _ hl2 hne).trans q2⟩)
       clear HN hA2 hlook hstore HMK BX BD HBX HXB hk2 HEN HRL HWB hwb
       subst ho1
       go_wp2_with fail
       go_region_held3 (fun V => V.cell? ⟨wr.heap.size, 0, none⟩ = some (.int .u16 (x1 : Int)) ∧ V.cell? ⟨wr.heap.size, 1, none⟩ = some (.int .u64 (x2 : Int))) (first | exact ⟨d3, d4⟩ | assumption | exact HXC.out _ (by (repeat (first | exact Below.refl _ _ | assumption | apply bel_drew | apply bel_alloc)))) (first
         | (refine step_app rfl (.tmp 24) (.tmp 30) rfl rfl (w.heap.size + 1) k2 (.slice A2' k2 c2') (addF (rawC a) (l.take k) x1) (some ⟨wr.heap.size + 2, 0, none⟩) [(x2, x2)] 1 1 rfl rfl HO2.out (fun h => by cases h) HBL.out rfl (by omega) hBsz ?_; intro A5 c5 w5 ho5 hg5 hl5; have hcV := HKC.out w5 hg5; obtain ⟨w6, hrun, hM6, hg6⟩ := HST.out w5 A5 (k2 + 1) c5 _ (HGD.out.trans hg5) ho5 HFN.out (hl5.imp (fun h => h) (fun h j hj => by rw [h] at hj; injection hj with hj; rw [← hj]; exact HSZ.out)) (by omega); have hcV6 := HK6.out w5 w6 hg5 hg6))
       all_goals
         have HR : Hid (MapO w6 (w.heap.size + 1) w.heap.size (n1 + (k + 1)) (addF (rawC a) (l.take (k + 1)))) := Lib.hid (hM6.turn HS.out)
         have HW6 : Hid (Below w.heap.size w w6) := Lib.hid ((HW1.out.grown hg5 HW1.out.size (fun j hj => by have := (HOL.out j hj).1; omega)).grown hg6 (Nat.le_trans HW1.out.size hg5.size) (fun j hj => by cases hj; exact Nat.le_refl _))
         clear hM6 hg6 hrun hg5 hl5 ho5 hcV hcV6 r1 r2 r3 r4 HO2 HBL HOL HST HW1 HKC HK6 HS HFN d1 d2 d3 d4 HXC HGD HSZ
         go_wp2
         go_roundw
         case rel => exact ⟨k + 1, hlt, by go_num, HR.out, HW6.out⟩
         case measure => simp [intOf]; omega
   · obtain rfl : k = n2 := by omega
     have e : Hid (l.take k = l) := Lib.hid (List.take_of_length_le (by rw [HDL.out]; exact Nat.le_refl _))
     have HL2 := Lib.hid (HL.out k)
     rw [e.out] at HMK HL2
     have CI := pinord_any psorts wr _ _ _ _ HMK.out.mapS HT.out (fun d => by have := HL2.out d; omega) (by omega)
     go_wp2_with fail
     refine CI.mono ?_
     intro e w2 hp
     obtain ⟨A5, n5, c5, ps, rfl, h2⟩ := cpost_up HW.out hp
     have HP := Lib.hid h2
     clear hp h2 CI
     go_wp2
     go_ret
     exact ⟨A5, n5, c5, ps, rfl, HP.out⟩
set_option maxHeartbeats 1000000 in
theorem pof_any (w : World) (A2 : Option Addr) (l : List Dot) (n2 c2 : Nat) (h2 : DotsAt w A2 l n2 c2) (hn2 : n2 ≤ 268435456) :
   Calls Tryz.prog 68 #[.slice A2 n2 c2] w (CtxPost w (ofC l)) := by
 have CA := padd_any w none A2 [] l 0 n2 0 c2 (CtxAt.none_ w) h2 ⟨Nat.zero_le _, Nat.zero_le _⟩ hn2
 have e : setC [] (ofC l) 0 = ofC l := by rw [join_turn, norm_set]; exact (ord_of h2.fit).norm
 rw [e] at CA
 clear h2 e
 go_enter Tryz.func68, Tryz.ntmps68
 go_wp2_with fail
 refine CA.mono ?_
 intro e w2 hp
 obtain ⟨A5, n5, c5, ps, rfl, h2⟩ := hp
 have HP := Lib.hid h2
 clear h2 CA
 go_wp2
 go_ret
 exact ⟨A5, n5, c5, ps, rfl, HP.out⟩
end Go.Proofs.YtgaegfddobpomaaGreat.Cx

namespace Go.Proofs.YtgaegfddobpomaaGreat.Ru
open Go.ChangeShapes Go.WideShapes Go.ChangeAt Go.RowKit Go.Shelf
set_option linter.unusedVariables false
set_option maxRecDepth 4000
theorem own_form {w : World} {B n size : Nat} {e : TypeId} {v : Value} {xs : List Value} (h : w.ownsRow B e size v n xs) : ∃ A c, v = .slice A n c := by
 rcases h.2 with ⟨rfl, rfl⟩ | ⟨g, cap, _, rfl, _⟩
 · exact ⟨none, 0, rfl⟩
 · exact ⟨_, cap, rfl⟩
theorem run_any (w : World) (B k : Nat) (v : Value) (xs : List Run) (A : Option Addr) (m : List Run) (n c : Nat) (ho : w.ownsRow B 68 2 v k (rv xs)) (hA : A = none → n = 0 ∧ c = 0) (hb : Lies w w.heap.size A (rv m)) (hl : m.length = n)
   (hn : k + n ≤ 8796093022208) (hB : B ≤ w.heap.size) :
   ∃ A' c' w', (Builtin.append_ #[69, 69] 69 #[v, .slice A n c]).run Tryz.prog w = .ok (.slice A' (k + n) c') w' ∧
     w'.ownsRow B 68 2 (.slice A' (k + n) c') (k + n) (rv (xs ++ m)) ∧ w.grownBy w' v.ownBlock := by
 obtain ⟨i0, hi0, hz0, hz1, hz2⟩ := info_parts run_info
 cases A with
 | none =>
   obtain ⟨rfl, rfl⟩ := hA rfl
   obtain rfl := List.eq_nil_of_length_eq_zero hl
   obtain ⟨A', c', rfl⟩ := own_form ho
   exact ⟨A', c', w, run_append_owned_none (P := Tryz.prog) (w := w) B 69 69 68 i0 2 Tryz.underlying69 hi0 _ k (rv xs) ho, by rw [List.append_nil]; exact ho, turn_refl _ _⟩
 | some ad =>
   have hc : ∀ j u, (rv m)[j]? = some u → w.cell? (ad.add j) = some u := by
     intro j u hu
     have hjl : j < (rv m).length := (List.getElem?_eq_some_iff.1 hu).1
     obtain ⟨ad', e, hadb, hc⟩ := hb (by omega)
     obtain rfl := Option.some.inj e
     exact hc j u hu
   obtain ⟨v', w', hr, h2, h3, hat, h5⟩ := run_append_own_at (P := Tryz.prog) w B 69 69 68 i0 (.agg #[.int .u64 0, .int .u64 0]) 2 16 Tryz.underlying69 hi0 hz0 hz1 hz2 rfl (by decide) v k (rv xs) ho ad n c (rv m) (by rw [rv_length, hl]) hc (rv_one m) (by simp only [maxLen]; omega) (by omega) hB
   obtain ⟨A', c', rfl⟩ := own_form h2
   exact ⟨A', c', w', hr, by rw [rv_append]; exact h2, h3⟩
theorem wpList_any {ops : Array Oper} {rest : List Oper} {o : Oper} {a : Act} {Q : Exit → Act → World → Prop} (hgd : o.guard = none) (s x : Operand) (ho : o.op = .call { callee := .builtin .append, args := #[s, x], argTypes := #[69, 69] }) (hty : o.type = 69)
   (w : World) (B k : Nat) (v : Value) (xs : List Run) (A : Option Addr) (m : List Run) (n c : Nat) (hs : a.eval s = v) (hx : a.eval x = .slice A n c) (hw : w.ownsRow B 68 2 v k (rv xs)) (hA : A = none → n = 0 ∧ c = 0) (hb : Lies w w.heap.size A (rv m)) (hl : m.length = n)
   (hn : k + n ≤ 8796093022208) (hB : B ≤ w.heap.size)
   (hK : ∀ A' c' w', w'.ownsRow B 68 2 (.slice A' (k + n) c') (k + n) (rv (xs ++ m)) → w.grownBy w' v.ownBlock → wpList Tryz.prog ops Q rest (a.put o.dst (.slice A' (k + n) c')) w') : wpList Tryz.prog ops Q (o :: rest) a w := by
 refine wpList_plain hgd fun K hQ => ?_
 obtain ⟨A', c', w', hr, h2, h3⟩ := run_any w B k v xs A m n c hw hA hb hl hn hB
 rw [← hty] at hr
 unfold Oper.wp execOp
 simp only [ho, resolve, invoke, builtin, Sem.run_bind, Sem.run_pure, Result.andThen_ok, List.map_toArray, List.map_cons, List.map_nil, hs, hx]
 rw [hty] at hr ⊢
 rw [hr]
 exact hQ _ _ (hK _ _ _ h2 h3)
theorem any_grown {w wr w2 : World} {v : Value} {m : Nat} {xs : List Value} (ho : wr.ownsRow w.heap.size 68 2 v m xs) (hb : Below w.heap.size w wr) (hg : wr.grownBy w2 v.ownBlock) : Below w.heap.size w w2 :=
 hb.grown hg hb.size (fun k hk => (ho.lt k hk).1)
theorem lies_one (V : World) (r : Run) : Lies (V.alloc (.cells #[.int .u64 (r.1 : Int), .int .u64 (r.2 : Int)] 68)) (V.alloc (.cells #[.int .u64 (r.1 : Int), .int .u64 (r.2 : Int)] 68)).heap.size (some ⟨V.heap.size, 0, none⟩) (rv [r]) :=
 fun _ => ⟨_, rfl, by simp, pair_at V r⟩
theorem com_length : ∀ (N : Nat) (a b : List Run), a.length + b.length ≤ N → (com a b).length ≤ a.length + b.length
 | N, [], b, _ => by rw [com_nil]; simp
 | N, x :: a, [], _ => by rw [com_nil']; simp
 | 0, x :: a, y :: b, h => by simp at h
 | N + 1, x :: a, y :: b, h => by
   simp only [List.length_cons] at h
   rw [com_cons, List.length_append]
   have h1 : (if mayR (both x y) = true then [both x y] else []).length ≤ 1 := by split <;> simp
   have h2 : (if x.2 < y.2 then com a (y :: b) else com (x :: a) b).length ≤ a.length + b.length + 1 := by
     split
     · have := com_length N a (y :: b) (by simp only [List.length_cons]; omega)
       simp only [List.length_cons] at this
       omega
     · have := com_length N (x :: a) b (by simp only [List.length_cons]; omega)
       simp only [List.length_cons] at this
       omega
   simp only [List.length_cons]
   omega
theorem Runs.head {w : World} {B : Nat} {A : Option Addr} {r : Run} {l : List Run} (h : Runs w B A (r :: l)) :
   ∃ ad : Addr, A = some ad ∧ ad.block < B ∧ w.cell? ad = some (.int .u64 (r.1 : Int)) ∧ w.cell? ⟨ad.block, ad.off + 1, none⟩ = some (.int .u64 (r.2 : Int)) ∧ Runs w B (some (ad.add 2)) l := by
 obtain ⟨ad, e, hB, hc⟩ := h.2 (by rw [rv_length]; simp)
 refine ⟨ad, e, hB, ?_, hc 1 _ rfl, fun s hs => h.1 s (by simp [hs]), fun hl => ⟨_, rfl, by rw [block_add]; exact hB, fun j u hu => ?_⟩⟩
 · have := hc 0 _ rfl
   rwa [show ad.add 0 = ad from by unfold Addr.add; simp] at this
 · rw [add_add]
   refine hc (2 + j) u ?_
   rw [show rv (r :: l) = [.int .u64 (r.1 : Int), .int .u64 (r.2 : Int)] ++ rv l from rfl, List.getElem?_append_right (by simp)]
   simpa using hu
theorem bel_alloc {w W : World} (o : Obj) (h : Below w.heap.size w W) : Below w.heap.size w (W.alloc o) := h.alloc h.size o
def lenV : Value → Nat
 | .slice _ n _ => n
 | _ => 0
structure CRel (w : World) (l1 l2 : List Run) (A1 A2 A : Option Addr) (m1 m2 m c1 c2 c : Nat) (a b o : List Run) (wr : World) : Prop where
 ha : a.length = m1
 hb : b.length = m2
 ho : o.length = m
 ra : Runs w w.heap.size A1 a
 rb : Runs w w.heap.size A2 b
 h1 : m1 ≤ c1 ∧ c1 ≤ 9223372036854775807
 h2 : m2 ≤ c2 ∧ c2 ≤ 9223372036854775807
 hr : wr.ownsRow w.heap.size 68 2 (.slice A m c) m (rv o)
 bel : Below w.heap.size w wr
 hs : o ++ com a b = com l1 l2
theorem runs_tail {w : World} {B : Nat} {ad : Addr} {l : List Run} {z c : Nat} (h : Runs w B (some (ad.add 2)) l) (hl : l.length = z) (hz : z + 1 ≤ c) : Runs w B (if c = 1 then some ad else some ⟨ad.block, ad.off + 2, none⟩) l := by
 split
 · rename_i hc
   rw [List.eq_nil_of_length_eq_zero (l := l) (by omega)]
   exact Runs.none_ _ _ _
 · have e : ad.add 2 = ⟨ad.block, ad.off + 2, none⟩ := by unfold Addr.add; simp
   rw [← e]; exact h
theorem com_left {w : World} {l1 l2 : List Run} {ad1 : Addr} {A2 A A3 : Option Addr} {z1 m2 m c1 c2 c c3 mt : Nat} {x y : Run} {a b o t : List Run} {wr V : World}
   (h : CRel w l1 l2 (some ad1) A2 A (z1 + 1) m2 m c1 c2 c (x :: a) (y :: b) o wr) (hlt : x.2 < y.2) (ra : Runs w w.heap.size (some (ad1.add 2)) a) (ht : (if mayR (both x y) = true then [both x y] else []) = t) (hm : m + t.length = mt)
   (hr : V.ownsRow w.heap.size 68 2 (.slice A3 mt c3) mt (rv (o ++ t))) (bel : Below w.heap.size w V) : CRel w l1 l2 (if c1 = 1 then some ad1 else some ⟨ad1.block, ad1.off + 2, none⟩) A2 A3 z1 m2 mt (c1 - 1) c2 c3 a (y :: b) (o ++ t) V := by
 have hl : a.length = z1 := by have := h.ha; simpa using this
 have hk := h.h1
 refine ⟨hl, h.hb, by rw [List.length_append, h.ho, hm], runs_tail ra hl hk.1, h.rb, by omega, h.h2, hr, bel, ?_⟩
 have hs := h.hs
 rw [com_cons, ht, if_pos hlt] at hs
 rw [List.append_assoc]; exact hs
theorem com_right {w : World} {l1 l2 : List Run} {ad2 : Addr} {A1 A A3 : Option Addr} {z2 m1 m c1 c2 c c3 mt : Nat} {x y : Run} {a b o t : List Run} {wr V : World}
   (h : CRel w l1 l2 A1 (some ad2) A m1 (z2 + 1) m c1 c2 c (x :: a) (y :: b) o wr) (hlt : ¬ x.2 < y.2) (rb : Runs w w.heap.size (some (ad2.add 2)) b) (ht : (if mayR (both x y) = true then [both x y] else []) = t) (hm : m + t.length = mt)
   (hr : V.ownsRow w.heap.size 68 2 (.slice A3 mt c3) mt (rv (o ++ t))) (bel : Below w.heap.size w V) : CRel w l1 l2 A1 (if c2 = 1 then some ad2 else some ⟨ad2.block, ad2.off + 2, none⟩) A3 m1 z2 mt c1 (c2 - 1) c3 (x :: a) b (o ++ t) V := by
 have hl : b.length = z2 := by have := h.hb; simpa using this
 have hk := h.h2
 refine ⟨h.ha, hl, by rw [List.length_append, h.ho, hm], h.ra, runs_tail rb hl hk.1, h.h1, by omega, hr, bel, ?_⟩
 have hs := h.hs
 rw [com_cons, ht, if_neg hlt] at hs
 rw [List.append_assoc]; exact hs
theorem crel_drewN {w V : World} {l1 l2 a b o : List Run} {A1 A2 A : Option Addr} {m1 m2 m c1 c2 c : Nat} (h : CRel w l1 l2 A1 A2 A m1 m2 m c1 c2 c a b o V) (k : Nat) : CRel w l1 l2 A1 A2 A m1 m2 m c1 c2 c a b o (V.drewN k) :=
 ⟨h.ha, h.hb, h.ho, h.ra, h.rb, h.h1, h.h2, h.hr, h.bel.trans ⟨rfl, rfl, rfl, Nat.le_refl _, fun _ _ => rfl⟩, h.hs⟩
set_option maxHeartbeats 4000000 in
theorem common_any (w : World) (A1 A2 : Option Addr) (l1 l2 : List Run) (n1 n2 c1 c2 : Nat) (hl1 : l1.length = n1) (hl2 : l2.length = n2) (hb1 : Runs w w.heap.size A1 l1) (hb2 : Runs w w.heap.size A2 l2) (h1 : n1 ≤ 4398046511104) (h2 : n2 ≤ 4398046511104)
   (k1 : n1 ≤ c1 ∧ c1 ≤ 9223372036854775807) (k2 : n2 ≤ c2 ∧ c2 ≤ 9223372036854775807) :
   Calls Tryz.prog 171 #[.slice A1 n1 c1, .slice A2 n2 c2] w (RunPost w (com l1 l2)) := by
 obtain ⟨i0, hi0, hz0, hz1, hz2⟩ := info_parts run_info
 have HN : Hid ((com l1 l2).length ≤ 8796093022208) := Nat.le_trans (com_length _ l1 l2 (Nat.le_refl _)) (by omega)
 have HS : Hid (CRel w l1 l2 A1 A2 none n1 n2 0 c1 c2 0 l1 l2 [] w) := ⟨hl1, hl2, rfl, hb1, hb2, k1, k2, World.ownsRow_nil _ _ _ _, Below.refl _ _, rfl⟩
 clear hl1 hl2 hb1 hb2 k1 k2
 go_enter Tryz.func171, Tryz.ntmps171
 go_wp2
 go_loopw [0, 1, 5] (fun va vb vo wr => ∃ (A1 A2 A : Option Addr) (m1 m2 m c1 c2 c : Nat) (a b o : List Run), va = .slice A1 m1 c1 ∧ vb = .slice A2 m2 c2 ∧ vo = .slice A m c ∧ CRel w l1 l2 A1 A2 A m1 m2 m c1 c2 c a b o wr) (fun va vb _ _ => lenV va + lenV vb)
 case atStart => exact ⟨A1, A2, none, n1, n2, 0, c1, c2, 0, l1, l2, [], rfl, rfl, rfl, HS.out⟩
 case round =>
   clear HS A1 A2 n1 n2 c1 c2 h1 h2
   obtain ⟨A1, A2, A, m1, m2, m, c1, c2, c, a, b, o, rfl, rfl, rfl, hR⟩ := hrel
   have HR := Lib.hid hR
   have q1 := hR.h1
   have q2 := hR.h2
   clear hR
   rcases a with _ | ⟨x, a⟩
   · obtain rfl : m1 = 0 := HR.out.ha.symm
     have he : Hid (o = com l1 l2) := by have := HR.out.hs; rwa [com_nil, List.append_nil] at this
     go_wp2
     go_ret
     exact ⟨A, m, c, rfl, by rw [← he.out]; exact HR.out.ho, by rw [← he.out]; exact HR.out.hr, HR.out.bel⟩
   · rcases b with _ | ⟨y, b⟩
     · obtain rfl : m2 = 0 := HR.out.hb.symm
       obtain ⟨z1, rfl⟩ : ∃ z, m1 = z + 1 := ⟨a.length, HR.out.ha.symm⟩
       have he : Hid (o = com l1 l2) := by have := HR.out.hs; rwa [com_nil', List.append_nil] at this
       have hp : (0 : Int) < ((z1 : Nat) : Int) + 1 := by omega
       go_wp2
       go_ret
       exact ⟨A, m, c, rfl, by rw [← he.out]; exact HR.out.ho, by rw [← he.out]; exact HR.out.hr, HR.out.bel⟩
     · obtain ⟨z1, rfl⟩ : ∃ z, m1 = z + 1 := ⟨a.length, HR.out.ha.symm⟩
       obtain ⟨z2, rfl⟩ : ∃ z, m2 = z + 1 := ⟨b.length, HR.out.hb.symm⟩
       obtain ⟨ad1, rfl, hB1, d1, d2, ra'⟩ := HR.out.ra.head
       obtain ⟨ad2, rfl, hB2, e1, e2, rb'⟩ := HR.out.rb.head
       have RA := Lib.hid ra'
       have RB := Lib.hid rb'
       have hx := HR.out.ra.1 x (by simp)
       have hy := HR.out.rb.1 y (by simp)
       have HC : Hid (∀ V, Below w.heap.size w V → (V.cell? ad1 = some (.int .u64 (x.1 : Int)) ∧ V.cell? ⟨ad1.block, ad1.off + 1, none⟩ = some (.int .u64 (x.2 : Int))) ∧ V.cell? ad2 = some (.int .u64 (y.1 : Int)) ∧ V.cell? ⟨ad2.block, ad2.off + 1, none⟩ = some (.int .u64 (y.2 : Int))) := fun V hV =>
         ⟨⟨(hV.cell hB1).trans d1, (hV.cell (p := ⟨ad1.block, ad1.off + 1, none⟩) hB1).trans d2⟩, (hV.cell hB2).trans e1, (hV.cell (p := ⟨ad2.block, ad2.off + 1, none⟩) hB2).trans e2⟩
       clear d1 d2 e1 e2 ra' rb'
       obtain ⟨⟨d1, d2⟩, e1, e2⟩ := HC.out wr HR.out.bel
       have hp1 : (0 : Int) < ((z1 : Nat) : Int) + 1 := by omega
       have hp2 : (0 : Int) < ((z2 : Nat) : Int) + 1 := by omega
       go_wp2_with fail
       obtain ⟨p, hpp⟩ : ∃ p, both x y = p := ⟨_, rfl⟩
       have M1 : max (x.1 : Int) (y.1 : Int) = (p.1 : Int) := by rw [← hpp]; show max (x.1 : Int) (y.1 : Int) = ((max x.1 y.1 : Nat) : Int); omega
       have M2 : min (x.2 : Int) (y.2 : Int) = (p.2 : Int) := by rw [← hpp]; show min (x.2 : Int) (y.2 : Int) = ((min x.2 y.2 : Nat) : Int); omega
       have PP := Lib.hid hpp
       clear hpp
       go_region_held3 (fun V => (V.cell? ad1 = some (.int .u64 (x.1 : Int)) ∧ V.cell? ⟨ad1.block, ad1.off + 1, none⟩ = some (.int .u64 (x.2 : Int))) ∧ V.cell? ad2 = some (.int .u64 (y.1 : Int)) ∧ V.cell? ⟨ad2.block, ad2.off + 1, none⟩ = some (.int .u64 (y.2 : Int))) (first | exact ⟨⟨d1, d2⟩, e1, e2⟩ | exact HC.out _ (by (repeat (first | exact HR.out.bel | apply bel_alloc | apply bel_drew)))) (fail)
       all_goals
         have P0 : Hid (Pair (wr.alloc (.cells #[.int .u64 (p.1 : Int), .int .u64 (p.2 : Int)] 68)).drew wr.heap.size p) := Pair.new wr p
         have HW1 : Hid (Below w.heap.size w (wr.alloc (.cells #[.int .u64 (p.1 : Int), .int .u64 (p.2 : Int)] 68)).drew) := (HR.out.bel.alloc HR.out.bel.size _).drew
         have HO1 : Hid ((wr.alloc (.cells #[.int .u64 (p.1 : Int), .int .u64 (p.2 : Int)] 68)).drew.ownsRow w.heap.size 68 2 (.slice A m c) m (rv o)) := HR.out.hr.alloc _
         clear d1 d2 e1 e2 M1 M2
         generalize (wr.alloc (.cells #[.int .u64 (p.1 : Int), .int .u64 (p.2 : Int)] 68)).drew = W1 at P0 HW1 HO1 ⊢
         have f1 := P0.out.cell1
         have f2 := P0.out.cell2
         go_wp2_with fail
         refine (tells_any W1 p.1 p.2).mono ?_
         rintro e V ⟨rfl, hb2⟩
         have L2 := Lib.hid hb2
         have PV := Lib.hid (P0.out.below hb2)
         clear f1 f2
         have HWV : Hid (Below w.heap.size w V) := HW1.out.trans (L2.out.mono HW1.out.size)
         have HOV := Lib.hid (own_kept HO1.out L2.out)
         clear hb2 L2 HW1 HO1 P0
         by_cases hm : mayR (p.1, p.2) = true
         · rw [hm]
           have p1 := PV.out.cell1
           have p2 := PV.out.cell2
           have HLO : Hid (m + 1 ≤ 8796093022208) := by
             have h := HR.out.hs
             have h2 := HN.out
             rw [← h, com_cons, PP.out, if_pos hm, List.length_append, List.length_append, HR.out.ho] at h2
             simp only [List.length_singleton] at h2
             show m + 1 ≤ _
             omega
           have HWA : Hid (Below w.heap.size w (V.alloc (.cells #[.int .u64 (p.1 : Int), .int .u64 (p.2 : Int)] 68))) := HWV.out.alloc HWV.out.size _
           go_wp2_with (at_builtin; refine wpList_any rfl (.tmp 36) (.tmp 38) rfl rfl _ w.heap.size m (.slice A m c) o (some ⟨V.heap.size, 0, none⟩) [p] 1 1 rfl rfl (HOV.out.alloc _) (fun h => by cases h) (lies_one V p) rfl HLO.out HWA.out.size ?_; intro A3 c3 V3 ho3 hg3; have HW3 := Lib.hid (any_grown (HOV.out.alloc _) HWA.out hg3); have HO3 := Lib.hid ho3; clear ho3 hg3)
           obtain ⟨⟨d1, d2⟩, e1, e2⟩ := HC.out V3 HW3.out
           have ht : Hid ((if mayR (both x y) = true then [both x y] else []) = [p]) := by show _ = _; rw [PP.out, if_pos hm]
           clear hm p1 p2 HWA HLO HOV HWV PV
           by_cases hlt : x.2 < y.2
           · have hld : decide ((x.2 : Int) < (y.2 : Int)) = true := decide_eq_true (by omega)
             have HR2 := Lib.hid (com_left HR.out hlt RA.out ht.out rfl HO3.out HW3.out)
             go_quiet (fail)
             go_wp2
             exact ⟨⟨_, _, _, _, _, _, _, _, _, _, _, _, rfl, rfl, rfl, crel_drewN HR2.out _⟩, by simp [lenV]⟩
           · have hld : decide ((x.2 : Int) < (y.2 : Int)) = false := decide_eq_false (by omega)
             have HR2 := Lib.hid (com_right HR.out hlt RB.out ht.out rfl HO3.out HW3.out)
             go_wp2_with fail
             go_quiet (fail)
             go_wp2
             exact ⟨⟨_, _, _, _, _, _, _, _, _, _, _, _, rfl, rfl, rfl, crel_drewN HR2.out _⟩, by simp [lenV]⟩
         · have hm' : mayR (p.1, p.2) = false := by simpa using hm
           rw [hm']
           obtain ⟨⟨d1, d2⟩, e1, e2⟩ := HC.out V HWV.out
           have ht : Hid ((if mayR (both x y) = true then [both x y] else []) = []) := by show _ = _; rw [PP.out, if_neg hm]
           have HOV2 : Hid (V.ownsRow w.heap.size 68 2 (.slice A m c) m (rv (o ++ []))) := by rw [List.append_nil]; exact HOV.out
           clear hm HOV PV
           by_cases hlt : x.2 < y.2
           · have hld : decide ((x.2 : Int) < (y.2 : Int)) = true := decide_eq_true (by omega)
             have HR2 := Lib.hid (com_left HR.out hlt RA.out ht.out rfl HOV2.out HWV.out)
             go_wp2_with fail
             go_quiet (fail)
             go_wp2
             exact ⟨⟨_, _, _, _, _, _, _, _, _, _, _, _, rfl, rfl, rfl, crel_drewN HR2.out _⟩, by simp [lenV]⟩
           · have hld : decide ((x.2 : Int) < (y.2 : Int)) = false := decide_eq_false (by omega)
             have HR2 := Lib.hid (com_right HR.out hlt RB.out ht.out rfl HOV2.out HWV.out)
             go_wp2_with fail
             go_quiet (fail)
             go_wp2
             exact ⟨⟨_, _, _, _, _, _, _, _, _, _, _, _, rfl, rfl, rfl, crel_drewN HR2.out _⟩, by simp [lenV]⟩
theorem RunPost.back {w W w' : World} {m : List Run} {e : Ending} (h : RunPost W m e w') (hb : Below w.heap.size w W) : RunPost w m e w' := by
 obtain ⟨A, n, c, rfl, hn, ho, hb'⟩ := h
 exact ⟨A, n, c, rfl, hn, own_less ho hb.size, hb.trans (hb'.mono hb.size)⟩
structure GRel (w : World) (l : List Run) (A : Option Addr) (m c nx k : Nat) (o : List Run) (wr : World) : Prop where
 ho : o.length = m
 hm : m ≤ k
 hr : wr.ownsRow w.heap.size 68 2 (.slice A m c) m (rv o)
 bel : Below w.heap.size w wr
 hs : o ++ gapS nx (l.drop k) = gapS 1 l
 hx : nx ≤ 281474976710656
theorem gap_step {w wr V : World} {l o : List Run} {A A3 : Option Addr} {m c c3 nx k : Nat} {r : Run} (h : GRel w l A m c nx k o wr) (hr : l[k]? = some r) (h2 : r.2 ≤ 281474976710655) (ho : V.ownsRow w.heap.size 68 2 (.slice A3 (m + 1) c3) (m + 1) (rv (o ++ [(nx, r.1 - 1)]))) (bel : Below w.heap.size w V) :
   GRel w l A3 (m + 1) c3 (r.2 + 1) (k + 1) (o ++ [(nx, r.1 - 1)]) V := by
 have hm := h.hm
 refine ⟨by rw [List.length_append, h.ho]; rfl, by omega, ho, bel, ?_, by omega⟩
 have hk : k < l.length := (List.getElem?_eq_some_iff.1 hr).1
 have hd : l.drop k = r :: l.drop (k + 1) := by
   rw [List.drop_eq_getElem_cons hk]
   rw [List.getElem?_eq_getElem hk] at hr
   rw [Option.some.inj hr]
 have hs := h.hs
 rw [hd, gapS] at hs
 rw [List.append_assoc]
 exact hs
set_option maxHeartbeats 1000000 in
theorem gaps_any (w : World) (A1 : Option Addr) (l : List Run) (n c1 : Nat) (hl : l.length = n) (hb : Runs w w.heap.size A1 l) (h42 : n ≤ 4398046511104) (hi : ∀ r ∈ l, mayR r = true) :
   Calls Tryz.prog 172 #[.slice A1 n c1] w (RunPost w (gapS 1 l)) := by
 have HL := Lib.hid hl
 have HB := Lib.hid hb
 have HI := Lib.hid hi
 have HS : Hid (GRel w l none 0 0 1 0 [] w) := ⟨rfl, Nat.le_refl _, World.ownsRow_nil _ _ _ _, Below.refl _ _, rfl, by omega⟩
 clear hl hb hi
 go_enter Tryz.func172, Tryz.ntmps172
 go_wp2
 go_loopw [3, 4, 9] (fun vo vn i wr => ∃ (A : Option Addr) (m c nx k : Nat) (o : List Run), k ≤ n ∧ vo = .slice A m c ∧ vn = .int .u64 (nx : Int) ∧ i = .int .i64 (k : Int) ∧ GRel w l A m c nx k o wr) (fun _ _ i _ => n - (intOf i).toNat)
 case atStart => exact ⟨none, 0, 0, 1, 0, [], Nat.zero_le _, rfl, rfl, rfl, HS.out⟩
 case round =>
   clear HS
   obtain ⟨A, m, c, nx, k, o, hk, rfl, rfl, rfl, hR⟩ := hrel
   have HR := Lib.hid hR
   have hmk := hR.hm
   have hnx := hR.hx
   clear hR
   by_cases hlt : k < n
   · obtain ⟨ad, lo, hi, rfl, hlk, hlo, hhi, q1, q2⟩ := (HB.out.below HR.out.bel).at_ (k := k) (by rw [HL.out]; exact hlt)
     have LK := Lib.hid hlk
     have mr := (may_iff (lo, hi)).1 (HI.out _ (List.mem_of_getElem? hlk))
     have mr1 : 1 ≤ lo := mr.1
     have mr2 : hi ≤ 281474976710655 := mr.2.2
     have q3 : wr.cell? ⟨(ad.add (k * 2)).block, (ad.add (k * 2)).off + 1, none⟩ = some (.int .u64 (hi : Int)) := by rw [add_next]; exact q2
     have P0 := Lib.hid (Pair.new wr (lo, hi))
     have HW0 : Hid (Below w.heap.size w (wr.alloc (.cells #[.int .u64 (lo : Int), .int .u64 (hi : Int)] 68))) := HR.out.bel.alloc HR.out.bel.size _
     have HO0 : Hid ((wr.alloc (.cells #[.int .u64 (lo : Int), .int .u64 (hi : Int)] 68)).ownsRow w.heap.size 68 2 (.slice A m c) m (rv o)) := HR.out.hr.alloc _
     have w1 : IntKind.u64.wrap ((lo : Int) - 1) = ((lo - 1 : Nat) : Int) := by simp [IntKind.wrap, IntKind.bits, IntKind.signed]; omega
     have w2 : IntKind.u64.wrap ((hi : Int) + 1) = ((hi + 1 : Nat) : Int) := by simp [IntKind.wrap, IntKind.bits, IntKind.signed]; omega
     clear hlk q2 mr
     obtain ⟨p2, hp2⟩ : ∃ p, lo - 1 = p := ⟨_, rfl⟩
     obtain ⟨nx2, hn2⟩ : ∃ p, hi + 1 = p := ⟨_, rfl⟩
     rw [hp2] at w1
     rw [hn2] at w2
     have E1 := Lib.hid hp2
     have E2 := Lib.hid hn2
     clear hp2 hn2
     have LI : Hid (Lies ((wr.alloc (.cells #[.int .u64 (lo : Int), .int .u64 (hi : Int)] 68)).alloc (.cells #[.int .u64 (nx : Int), .int .u64 (p2 : Int)] 68)) ((wr.alloc (.cells #[.int .u64 (lo : Int), .int .u64 (hi : Int)] 68)).alloc (.cells #[.int .u64 (nx : Int), .int .u64 (p2 : Int)] 68)).heap.size (some ⟨wr.heap.size + 1, 0, none⟩) (rv [(nx, p2)])) := by
       have h := lies_one (wr.alloc (.cells #[.int .u64 (lo : Int), .int .u64 (hi : Int)] 68)) (nx, p2)
       rw [show (wr.alloc (.cells #[.int .u64 (lo : Int), .int .u64 (hi : Int)] 68)).heap.size = wr.heap.size + 1 by simp] at h
       exact h
     have HW2 : Hid (Below w.heap.size w ((wr.alloc (.cells #[.int .u64 (lo : Int), .int .u64 (hi : Int)] 68)).alloc (.cells #[.int .u64 (nx : Int), .int .u64 (p2 : Int)] 68))) := HW0.out.alloc HW0.out.size _
     have HP0 : Hid (∀ V, (wr.alloc (.cells #[.int .u64 (lo : Int), .int .u64 (hi : Int)] 68)).alloc (.cells #[.int .u64 (nx : Int), .int .u64 (p2 : Int)] 68) |>.grownBy V (Value.slice A m c).ownBlock → V.cell? ⟨wr.heap.size, 1, none⟩ = some (.int .u64 (hi : Int))) := fun V hg => by
       refine ((P0.out.below (below_new _ _)).kept hg (fun e => ?_)).cell2
       have := (HR.out.hr.lt _ e.symm).2
       omega
     go_wp2_with (at_builtin; refine wpList_any rfl (.tmp 13) (.tmp 19) rfl rfl _ w.heap.size m (.slice A m c) o (some ⟨wr.heap.size + 1, 0, none⟩) [(nx, p2)] 1 1 rfl rfl (HO0.out.alloc _) (fun h => by cases h) LI.out rfl (by omega) HW2.out.size ?_; intro A3 c3 V3 ho3 hg3; have HW3 := Lib.hid (any_grown (HO0.out.alloc _) HW2.out hg3); have HO3 := Lib.hid ho3; have r3 := HP0.out V3 hg3; clear ho3 hg3)
     have HR2 : Hid (GRel w l A3 (m + 1) c3 nx2 (k + 1) (o ++ [(nx, p2)]) V3) := by
       have h : GRel w l A3 (m + 1) c3 (hi + 1) (k + 1) (o ++ [(nx, lo - 1)]) V3 := gap_step HR.out LK.out mr2 (by show V3.ownsRow w.heap.size 68 2 (.slice A3 (m + 1) c3) (m + 1) (rv (o ++ [(nx, lo - 1)])); rw [E1.out]; exact HO3.out) HW3.out
       rw [E1.out, E2.out] at h
       exact h
     go_roundw
     case rel => exact ⟨A3, m + 1, c3, nx2, k + 1, _, by omega, rfl, rfl, by go_num, HR2.out⟩
     case measure => simp [intOf]; omega
   · obtain rfl : k = n := by omega
     have he : Hid (o ++ [(nx, 281474976710655)] = gapS 1 l) := by
       have h := HR.out.hs
       rw [List.drop_of_length_le (by rw [HL.out]; exact Nat.le_refl _)] at h
       exact h
     have HWA : Hid (Below w.heap.size w (wr.alloc (.cells #[.int .u64 (nx : Int), .int .u64 281474976710655] 68))) := HR.out.bel.alloc HR.out.bel.size _
     go_wp2_with (at_builtin; refine wpList_any rfl (.tmp 25) (.tmp 28) rfl rfl _ w.heap.size m (.slice A m c) o (some ⟨wr.heap.size, 0, none⟩) [(nx, 281474976710655)] 1 1 rfl rfl (HR.out.hr.alloc _) (fun h => by cases h) (lies_one wr (nx, 281474976710655)) rfl (by omega) HWA.out.size ?_; intro A3 c3 V3 ho3 hg3; have HW3 := Lib.hid (any_grown (HR.out.hr.alloc _) HWA.out hg3); have HO3 := Lib.hid ho3; clear ho3 hg3)
     go_ret
     exact ⟨A3, m + 1, c3, rfl, by rw [← he.out, List.length_append, HR.out.ho]; rfl, by rw [← he.out]; exact HO3.out, HW3.out⟩
theorem fit_sep {l : List Run} (h : ∀ r ∈ l, okR r) (hb : ∀ r ∈ l, r.1 ≤ 281474976710656) : Fit l := fun r hr => by
 have := hb r hr
 rcases h r hr with h | h
 · have := (may_iff r).1 h; omega
 · omega
theorem gap_low : ∀ (l : List Run) (nx : Nat), (∀ r ∈ l, mayR r = true) → nx ≤ 281474976710656 → ∀ r ∈ gapS nx l, r.1 ≤ 281474976710656
 | [], nx, _, h, r, hr => by obtain rfl := List.mem_singleton.1 hr; exact h
 | s :: l, nx, hm, h, r, hr => by
   rw [gapS] at hr
   have := (may_iff s).1 (hm s (by simp))
   rcases List.mem_cons.1 hr with rfl | hr
   · exact h
   · exact gap_low l (s.2 + 1) (fun x hx => hm x (by simp [hx])) (by omega) r hr
theorem pmeet_any (w : World) (A1 A2 : Option Addr) (l1 l2 : List Run) (n1 n2 c1 c2 : Nat) (hl1 : l1.length = n1) (hl2 : l2.length = n2) (hb1 : Runs w w.heap.size A1 l1) (hb2 : Runs w w.heap.size A2 l2) (h1 : n1 ≤ 4398046511104) (h2 : n2 ≤ 4398046511104) :
   Calls Tryz.prog 167 #[.slice A1 n1 c1, .slice A2 n2 c2] w (RunPost w (setL l1 l2 1)) := by
 have H1 := Lib.hid (pnorm_any w A1 l1 n1 c1 hl1 hb1 h1)
 have HB2 := Lib.hid hb2
 have HL2 := Lib.hid hl2
 have k1 := nrm_length l1
 have k2 := nrm_length l2
 rw [hl1] at k1
 rw [hl2] at k2
 clear hl1 hl2 hb1 hb2
 go_enter Tryz.func167, Tryz.ntmps167
 go_wp2_with fail
 refine H1.out.mono ?_
 rintro e w1 p1
 obtain ⟨B1, m1, d1, rfl, e1, _, f1, f1', r1, o1, b1⟩ := post_runs p1 (fit_order (nrm_spec l1).1)
 have R1 := Lib.hid r1
 have E1 := Lib.hid e1
 have W1 := Lib.hid b1
 have H2 := Lib.hid (pnorm_any w1 A2 l2 n2 c2 HL2.out (HB2.out.up b1) h2)
 rw [e1] at k1
 clear p1 r1 o1 b1 e1
 go_wp2_with fail
 refine H2.out.mono ?_
 rintro e w2 p2
 obtain ⟨B2, m2, d2, rfl, e2, _, f2, f2', r2, o2, b2⟩ := post_runs p2 (fit_order (nrm_spec l2).1)
 rw [e2] at k2
 have H3 := Lib.hid (common_any w2 B1 B2 (nrm l1) (nrm l2) m1 m2 d1 d2 E1.out e2 (R1.out.up b2) r2 (by omega) (by omega) ⟨f1, f1'⟩ ⟨f2, f2'⟩)
 have W2 : Hid (Below w.heap.size w w2) := W1.out.trans (b2.mono W1.out.size)
 clear p2 r2 o2 b2 e2
 go_wp2_with fail
 refine H3.out.mono ?_
 rintro e w3 p3
 rw [meet_comes] at p3
 obtain ⟨A, n, c, rfl, h⟩ := p3.back W2.out
 have HH := Lib.hid h
 clear p3 h
 go_wp2
 go_ret
 exact ⟨A, n, c, rfl, HH.out⟩
theorem pminus_any (w : World) (A1 A2 : Option Addr) (l1 l2 : List Run) (n1 n2 c1 c2 : Nat) (hl1 : l1.length = n1) (hl2 : l2.length = n2) (hb1 : Runs w w.heap.size A1 l1) (hb2 : Runs w w.heap.size A2 l2) (h1 : n1 ≤ 2199023255552) (h2 : n2 ≤ 2199023255552) :
   Calls Tryz.prog 151 #[.slice A1 n1 c1, .slice A2 n2 c2] w (RunPost w (setL l1 l2 2)) := by
 have H1 := Lib.hid (pnorm_any w A1 l1 n1 c1 hl1 hb1 (by omega))
 have HB2 := Lib.hid hb2
 have HL2 := Lib.hid hl2
 have k1 := nrm_length l1
 have k2 := nrm_length l2
 rw [hl1] at k1
 rw [hl2] at k2
 clear hl1 hl2 hb1 hb2
 go_enter Tryz.func151, Tryz.ntmps151
 go_wp2_with fail
 refine H1.out.mono ?_
 rintro e w1 p1
 obtain ⟨B1, m1, d1, rfl, e1, _, f1, f1', r1, o1, b1⟩ := post_runs p1 (fit_order (nrm_spec l1).1)
 have R1 := Lib.hid r1
 have E1 := Lib.hid e1
 have W1 := Lib.hid b1
 have H2 := Lib.hid (pnorm_any w1 A2 l2 n2 c2 HL2.out (HB2.out.up b1) (by omega))
 rw [e1] at k1
 clear p1 r1 o1 b1 e1
 go_wp2_with fail
 refine H2.out.mono ?_
 rintro e w2 p2
 obtain ⟨B2, m2, d2, rfl, e2, _, f2, f2', r2, o2, b2⟩ := post_runs p2 (fit_order (nrm_spec l2).1)
 rw [e2] at k2
 have HG := Lib.hid (gaps_any w2 B2 (nrm l2) m2 d2 e2 r2 (by omega) (nrm_spec l2).1.1)
 have E2 := Lib.hid e2
 have R2 := Lib.hid (R1.out.up b2)
 have W2 : Hid (Below w.heap.size w w2) := W1.out.trans (b2.mono W1.out.size)
 clear p2 r2 o2 b2 e2
 go_wp2_with fail
 refine HG.out.mono ?_
 rintro e w3 p3
 obtain ⟨g1, g2, _, g4⟩ := gap_nrm l2
 obtain ⟨B3, m3, d3, rfl, e3, _, f3, f3', r3, o3, b3⟩ := post_runs p3 (fit_sep g2 (gap_low _ 1 (nrm_spec l2).1.1 (by omega)))
 rw [E2.out] at g4
 have k3 : m3 ≤ 4398046511104 := by omega
 have H3 := Lib.hid (common_any w3 B1 B3 (nrm l1) (gapS 1 (nrm l2)) m1 m3 d1 d3 E1.out e3 (R2.out.up b3) r3 (by omega) k3 ⟨f1, f1'⟩ ⟨f3, f3'⟩)
 have W3 : Hid (Below w.heap.size w w3) := W2.out.trans (b3.mono W2.out.size)
 clear p3 r3 o3 b3 e3 g1 g2 g4
 go_wp2_with fail
 refine H3.out.mono ?_
 rintro e w4 p4
 rw [minus_comes] at p4
 obtain ⟨A, n, c, rfl, h⟩ := p4.back W3.out
 have HH := Lib.hid h
 clear p4 h
 go_wp2
 go_ret
 exact ⟨A, n, c, rfl, HH.out⟩
end Go.Proofs.YtgaegfddobpomaaGreat.Ru
