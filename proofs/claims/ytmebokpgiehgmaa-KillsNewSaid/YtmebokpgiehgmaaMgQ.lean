/- Words and contracts that the proofs of this seat stand on, part 17 of 18. -/
import Derived.Test.YtmebokpgiehgmaaMgP

/- KillsNew: a new event, its kills, and what is live with it. -/
namespace Go.Proofs.Ytmebokpgiehgmaa.Kl
open Go.ChangeShapes Go.WideShapes Go.ChangeAt Go.RowKit
set_option linter.unusedVariables false
set_option maxRecDepth 4000

theorem live_len (l : List Ev.Evt) : (liveE l).length ≤ l.length := by
  have h1 := List.length_filter_le (liveB (Ev.sortE l)) (Ev.sortE l)
  have h2 := sort_len l
  show ((Ev.sortE l).filter (liveB (Ev.sortE l))).length ≤ _
  omega
theorem dots_len {l : List Ev.Evt} (h : ∀ x ∈ l, x.kills.length ≤ 1024) : (Ev.dotsE l).length ≤ l.length * 1025 := by
  have h1 := Ev.dots_long h l.length
  unfold Ev.dotsTo at h1
  rw [List.take_of_length_le (Nat.le_refl _)] at h1
  exact h1
theorem live_in {l : List Ev.Evt} {x : Ev.Evt} (h : x ∈ liveE l) : x ∈ l := dot_in ((live_mem l x).1 h).1
theorem kills_edit (cid f : Nat) : killsB 1 cid f = editB cid f := by funext x; simp [killsB]
theorem kills_del (cid f : Nat) : killsB 2 cid f = delB cid := by funext x; simp [killsB]
/-- what stays of the first k live ones, in order. -/
noncomputable def stayTo (l : List Ev.Evt) (e : Ev.Evt) (k : Nat) : List Ev.Evt := (((liveE l).take k).filter (stayB e.kind e.cid e.fld)).foldl Ev.putE []
theorem puts_lenE (l m : List Ev.Evt) : (l.foldl Ev.putE m).length ≤ m.length + l.length := by
  induction l generalizing m with
  | nil => exact Nat.le_refl _
  | cons x l ih =>
    have h1 := ih (Ev.putE m x)
    have h2 := Ev.put_long m x
    rw [List.foldl_cons, List.length_cons]
    omega
theorem stay_len (l : List Ev.Evt) (e : Ev.Evt) (k : Nat) : (stayTo l e k).length ≤ k := by
  have h1 := puts_lenE (((liveE l).take k).filter (stayB e.kind e.cid e.fld)) []
  have h2 := List.length_filter_le (stayB e.kind e.cid e.fld) ((liveE l).take k)
  have h3 := List.length_take_le k (liveE l)
  show ((((liveE l).take k).filter (stayB e.kind e.cid e.fld)).foldl Ev.putE []).length ≤ k
  simp only [List.length_nil] at h1
  omega
theorem stay_skip {l : List Ev.Evt} {e y : Ev.Evt} {k : Nat} (h : (liveE l)[k]? = some y) (hf : stayB e.kind e.cid e.fld y = false) : stayTo l e (k + 1) = stayTo l e k := by
  unfold stayTo
  rw [Ev.take_one h, List.filter_append]
  simp [hf]
theorem stay_take {l : List Ev.Evt} {e y : Ev.Evt} {k : Nat} (h : (liveE l)[k]? = some y) (hf : stayB e.kind e.cid e.fld y = true) : stayTo l e (k + 1) = Ev.putE (stayTo l e k) y := by
  unfold stayTo
  rw [Ev.take_one h, List.filter_append, List.foldl_append]
  simp [hf]
theorem stay_all (l : List Ev.Evt) (e : Ev.Evt) {n : Nat} (h : (liveE l).length = n) : stayTo l e n = ((liveE l).filter (stayB e.kind e.cid e.fld)).foldl Ev.putE [] := by
  unfold stayTo
  rw [List.take_of_length_le (by rw [h]; exact Nat.le_refl _)]
/-- the new event, with its kills. -/
noncomputable def withK (l : List Ev.Evt) (e : Ev.Evt) : Ev.Evt := ⟨e.dot, e.kind, e.cid, e.fld, e.txt, newK l e.kind e.cid e.fld⟩
/-- an append to a list of events of one's own, one operation of a region. -/
theorem step_evts {ops : Array Oper} {o : Oper} {a : Act} {K : Act → World → Prop} {Q : Exit → Act → World → Prop} {E : Prop} (hwa : Region.wanted o (yielded ops a.tmps) = true) (s x : Operand) (ho : o.op = .call { callee := .builtin .append, args := #[s, x], argTypes := #[22, 22] }) (hty : o.type = 22)
    (w W : World) (k q : Nat) (v : Value) (xs : List Ev.EV) (A : Option Addr) (m : List Ev.EV) (n c : Nat) (hs : a.eval s = v) (hx : a.eval x = .slice A n c) (hbl : Below W.heap.size W w) (hw : w.ownsRow W.heap.size 38 7 v k (Ev.ev xs)) (hA : A = none → n = 0 ∧ c = 0) (hb : Dt.Lies w w.heap.size A (Ev.ev m)) (hl : m.length = n)
    (hq : k + n = q) (hn : q ≤ 1649267441664)
    (hK : ∀ A' c' w', w'.ownsRow W.heap.size 38 7 (.slice A' q c') q (Ev.ev (xs ++ m)) → w.grownBy w' v.ownBlock → Below W.heap.size W w' → K (a.put o.dst (.slice A' q c')) w') :
    if Region.wanted o (yielded ops a.tmps) = true then Oper.wp Try.prog o a w K Q else E := by
  subst hq
  rw [if_pos hwa]
  obtain ⟨A', c', w', hr, h2, h3⟩ := Ev.run_evt w W.heap.size k v xs A m n c hw hA hb hl hn hbl.size
  rw [← hty] at hr
  unfold Oper.wp execOp
  simp only [ho, resolve, invoke, builtin, Sem.run_bind, Sem.run_pure, Result.andThen_ok, List.map_toArray, List.map_cons, List.map_nil, hs, hx]
  rw [hty] at hr ⊢
  rw [hr]
  exact hK _ _ _ h2 h3 (Ev.evt_grown hw hbl h3)
theorem lies_row {W V : World} {A : Option Addr} {vs : List Value} {row : Option Nat} (h : Dt.Lies W W.heap.size A vs) (hg : W.grownBy V row) (hne : ∀ ad : Addr, A = some ad → some ad.block ≠ row) : Dt.Lies V V.heap.size A vs := fun hl => by
  obtain ⟨ad, e, hb, hc⟩ := h hl
  refine ⟨ad, e, Nat.lt_of_lt_of_le hb hg.size, fun j u hu => ?_⟩
  rw [World.cell?_of_block (w := W) (hg.block _ (by rw [Dt.block_add]; exact hb) (by rw [Dt.block_add]; exact hne ad e))]
  exact hc j u hu
theorem own_litE {W V : World} (hB : Below W.heap.size W V) : (V.alloc (.cells #[] 38)).ownsRow W.heap.size 38 7 (.slice (some ⟨V.heap.size, 0, none⟩) 0 0) 0 (Ev.ev []) :=
  World.ownsRow_lit V #[] 0 hB.size (by simp [maxLen]) rfl

set_option maxHeartbeats 16000000 in
theorem new_e1 (P : PKl) (w : World) (A1 : Option Addr) (l : List Ev.Evt) (q : Ev.EV) (e : Ev.Evt) (n1 c1 : Nat) (hl : Ev.EventsAt w w.heap.size A1 l n1 c1) (hq : Ev.EventIs w w.heap.size q e) (hfl : Ev.fewB l 15 = true) (hfe : Ev.fewB [e] 1 = true) (hkd : e.kind = 1) (hh : decide (e.dot ∈ Ev.dotsE l) = false) :
    Calls Try.prog 4 #[.slice A1 n1 c1, q.val] w fun e w' => e = .returned (.bool true) ∧ Below w.heap.size w w' := by
  have hn : n1 ≤ 1024 := by have h1 := (few_all hfl).1; have h2 := hl.len; omega
  have hk : ∀ x ∈ l, x.kills.length ≤ 1024 := fun x hx => Nat.le_trans ((few_all hfl).2 x hx) (by decide)
  have HB := Lib.hid (Ev.below_new w q.box)
  have HL := Lib.hid (hl.up HB.out)
  have HQ := Lib.hid (hq.up HB.out)
  have HXC := Lib.hid (fun V (hV : Below (w.alloc q.box).heap.size (w.alloc q.box) V) => (Ev.box_new w q V (by rw [Ev.alloc_size] at hV; exact hV)).all)
  have hdot := Ev.is_dot hq
  simp only [Ev.EV.val]
  simp only [Ev.EV.box] at HB HL HQ HXC
  have k1 : ((q.kind : Int) != 1) = false := by rw [hq.kind, hkd]; rfl
  have k3 : ((q.kind : Int) == 1) = true := by rw [hq.kind, hkd]; rfl
  have HLO := Lib.hid hl
  have HQO := Lib.hid hq
  have R0 : Hid (At (w.alloc q.box) w.heap.size 38 (ebox q)) := Lib.hid (At.new w _ _)
  have hk8 : ∀ x ∈ l, x.kills.length ≤ 65536 := fun x hx => Nat.le_trans (hk x hx) (by decide)
  have hh0 := hh
  clear hl hq
  go_enter Try.func4, Try.ntmps4
  go_upto_region 1 with fail
  generalize w.alloc (.cells #[.int .u16 (q.dev : Int), .int .u64 (q.num : Int), .int .u8 (q.kind : Int), .int .u64 (q.cid : Int), .int .u8 (q.fld : Int), .string q.txt, .slice q.adr q.len q.cap] 38) = w1 at *
  have CF1 := fun W (hW : Below w1.heap.size w1 W) => (Ev.rfew_any W A1 l n1 c1 15 (by decide) (HL.out.up hW)).mono (fun r V (h : r = .returned (.bool (Ev.fewB l 15)) ∧ V = W) => (⟨h.1, by rw [h.2]; exact hW⟩ : r = .returned (.bool (Ev.fewB l 15)) ∧ Below w1.heap.size w1 V))
  simp only [show ((15 : Nat) : Int) = 15 from rfl, hfl] at CF1
  have CD := fun W (hW : Below w1.heap.size w1 W) => later_dots hW (Ev.rdots_any W A1 l n1 c1 (HL.out.up hW) hn hk)
  have CH := fun W A m c (h : Ev.DotsAt W W.heap.size A (Ev.dotsE l) m c) (hW : Below w1.heap.size w1 W) => rhas_later w1 W A (Ev.dotsE l) m c (q.dev, q.num) h hW
  rw [hdot] at hh
  simp only [hh] at CH
  refine wp_region_noPanic ?_
  refine wp_region_held_drew (S := fun V => V.cell? ⟨w.heap.size, 0, none⟩ = some (.int .u16 (q.dev : Int)) ∧ V.cell? ⟨w.heap.size, 1, none⟩ = some (.int .u64 (q.num : Int)) ∧ V.cell? ⟨w.heap.size, 2, none⟩ = some (.int .u8 (q.kind : Int)) ∧ V.cell? ⟨w.heap.size, 3, none⟩ = some (.int .u64 (q.cid : Int)) ∧ V.cell? ⟨w.heap.size, 4, none⟩ = some (.int .u8 (q.fld : Int)) ∧ V.cell? ⟨w.heap.size, 5, none⟩ = some (.string q.txt) ∧ V.cell? ⟨w.heap.size, 6, none⟩ = some (.slice q.adr q.len q.cap)) (by kernel_rfl) (HXC.out _ (Ev.bel_drew (Below.refl _ _))) (fun hHeld => ?_)
  refine wpAnyH_take (i := 0) (oi := { dst := some 9, op := Op.move (Operand.tmp 0), type := 22, pos := "law.go:46", after := #[], guard := none }) (v := ?_) rfl (by kernel_rfl) (by kernel_rfl) (by kernel_rfl) (fun _ _ _ h => h) (Or.inl ⟨by rfl, ?_⟩) (by assumption) ?_
  rotate_left
  · (intro w hSw; (try dsimp only at hSw); go_simp <;> (with_reducible rfl))
  try simp only [Act.put, List.setIfInBounds_toArray, List.set_cons_zero, List.set_cons_succ]
  refine wpAnyH_ready (rs := [1]) (by kernel_rfl) (by simp) ?_
  refine AllReadyH.cons (o := { dst := some 10, op := Op.call { callee := Callee.value (Operand.func 6), args := #[Operand.tmp 9, Operand.const (Value.int IntKind.i64 15)], argTypes := #[22, 3] }, type := 4, pos := "law.go:46", after := #[{ on := 0, ground := Ground.data }], guard := none }) rfl (fun K hK => ?_) AllReadyH.nil
  go_simp
  go_at_call 6; (with_reducible refine (CF1 _ ?_).mono ?_); (focus (repeat (first | exact Below.refl _ _ | assumption | apply Ev.bel_drew | apply Ev.bel_alloc))); rintro r V ⟨rfl, bv⟩; have hcV := HXC.out V bv
  refine hK.out _ _ (by assumption) (fun hH => ?_)
  clear hHeld hK K
  have hHeld := hH
  clear hH
  try simp only [Act.put, List.setIfInBounds_toArray, List.set_cons_zero, List.set_cons_succ]
  refine wpAnyH_take (i := 2) (oi := { dst := some 11, op := Op.unOp UnOp.not 4 (Operand.tmp 10), type := 4, pos := "law.go:46", after := #[{ on := 1, ground := Ground.data }], guard := none }) (v := ?_) rfl (by kernel_rfl) (by kernel_rfl) (by kernel_rfl) (fun _ _ _ h => h) (Or.inl ⟨by rfl, ?_⟩) (by assumption) ?_
  rotate_left
  · (intro w hSw; (try dsimp only at hSw); go_simp <;> (with_reducible rfl))
  try simp only [Act.put, List.setIfInBounds_toArray, List.set_cons_zero, List.set_cons_succ]
  refine wpAnyH_take (i := 3) (oi := { dst := some 12, op := Op.move (Operand.tmp 11), type := 4, pos := "law.go:46", after := #[{ on := 2, ground := Ground.data }, { on := 1, ground := Ground.chain }], guard := none }) (v := ?_) rfl (by kernel_rfl) (by kernel_rfl) (by kernel_rfl) (fun _ _ _ h => h) (Or.inl ⟨by rfl, ?_⟩) (by assumption) ?_
  rotate_left
  · (intro w hSw; (try dsimp only at hSw); go_simp <;> (with_reducible rfl))
  try simp only [Act.put, List.setIfInBounds_toArray, List.set_cons_zero, List.set_cons_succ]
  refine wpAnyH_take (i := 4) (oi := { dst := some 13, op := Op.load 38 (Operand.tmp 3), type := 38, pos := "law.go:46", after := #[{ on := 3, ground := Ground.guard }], guard := some (3, false) }) (v := ?_) rfl (by kernel_rfl) (by kernel_rfl) (by kernel_rfl) (fun _ _ _ h => h) (Or.inl ⟨by rfl, ?_⟩) (by assumption) ?_
  rotate_left
  · (intro w hSw; (try dsimp only at hSw); go_simp <;> (with_reducible rfl))
  try simp only [Act.put, List.setIfInBounds_toArray, List.set_cons_zero, List.set_cons_succ]
  refine wpAnyH_ready (rs := [5]) (by kernel_rfl) (by simp) ?_
  refine AllReadyH.cons (o := { dst := some 14, op := Op.buildSlice 22 1 #[(0, Operand.tmp 13)], type := 22, pos := "law.go:46", after := #[{ on := 4, ground := Ground.data }, { on := 3, ground := Ground.guard }], guard := some (3, false) }) rfl (fun K hK => ?_) AllReadyH.nil
  go_simp
  have hcA := HXC.out (V.alloc (.cells #[.int .u16 (q.dev : Int), .int .u64 (q.num : Int), .int .u8 (q.kind : Int), .int .u64 (q.cid : Int), .int .u8 (q.fld : Int), .string q.txt, .slice q.adr q.len q.cap] 38)) (Ev.bel_alloc _ bv)
  refine hK.out _ _ (by assumption) (fun hH => ?_)
  clear hHeld hK K
  have hHeld := hH
  clear hH
  try simp only [Act.put, List.setIfInBounds_toArray, List.set_cons_zero, List.set_cons_succ]
  refine wpAnyH_ready (rs := [6]) (by kernel_rfl) (by simp) ?_
  refine AllReadyH.cons (o := { dst := some 15, op := Op.call { callee := Callee.value (Operand.func 6), args := #[Operand.tmp 14, Operand.const (Value.int IntKind.i64 1)], argTypes := #[22, 3] }, type := 4, pos := "law.go:46", after := #[{ on := 5, ground := Ground.data }, { on := 3, ground := Ground.chain }, { on := 3, ground := Ground.guard }], guard := some (3, false) }) rfl (fun K hK => ?_) AllReadyH.nil
  go_simp
  go_at_call 6; (refine (few_one hfe (Ev.bel_alloc _ bv) (Ev.lies_evt V q) (HQ.out.up (Ev.bel_alloc _ bv))).mono ?_); rintro r V2 ⟨rfl, bv2⟩; have hcV2 := HXC.out V2 bv2
  refine hK.out _ _ (by assumption) (fun hH => ?_)
  clear hHeld hK K
  have hHeld := hH
  clear hH
  try simp only [Act.put, List.setIfInBounds_toArray, List.set_cons_zero, List.set_cons_succ]
  refine wpAnyH_take (i := 7) (oi := { dst := some 16, op := Op.unOp UnOp.not 4 (Operand.tmp 15), type := 4, pos := "law.go:46", after := #[{ on := 6, ground := Ground.data }, { on := 3, ground := Ground.guard }], guard := some (3, false) }) (v := ?_) rfl (by kernel_rfl) (by kernel_rfl) (by kernel_rfl) (fun _ _ _ h => h) (Or.inl ⟨by rfl, ?_⟩) (by assumption) ?_
  rotate_left
  · (intro w hSw; (try dsimp only at hSw); go_simp <;> (with_reducible rfl))
  try simp only [Act.put, List.setIfInBounds_toArray, List.set_cons_zero, List.set_cons_succ]
  refine wpAnyH_take (i := 8) (oi := { dst := some 17, op := Op.pick (Operand.tmp 12) (Operand.const (Value.bool true)) (Operand.tmp 16), type := 4, pos := "law.go:46", after := #[{ on := 3, ground := Ground.data }, { on := 7, ground := Ground.data }], guard := none }) (v := ?_) rfl (by kernel_rfl) (by kernel_rfl) (by kernel_rfl) (fun _ _ _ h => h) (Or.inl ⟨by rfl, ?_⟩) (by assumption) ?_
  rotate_left
  · (intro w hSw; (try dsimp only at hSw); go_simp <;> (with_reducible rfl))
  try simp only [Act.put, List.setIfInBounds_toArray, List.set_cons_zero, List.set_cons_succ]
  refine wpAnyH_take (i := 9) (oi := { dst := some 18, op := Op.move (Operand.tmp 17), type := 4, pos := "law.go:46", after := #[{ on := 8, ground := Ground.data }, { on := 6, ground := Ground.chain }], guard := none }) (v := ?_) rfl (by kernel_rfl) (by kernel_rfl) (by kernel_rfl) (fun _ _ _ h => h) (Or.inl ⟨by rfl, ?_⟩) (by assumption) ?_
  rotate_left
  · (intro w hSw; (try dsimp only at hSw); go_simp <;> (with_reducible rfl))
  try simp only [Act.put, List.setIfInBounds_toArray, List.set_cons_zero, List.set_cons_succ]
  refine wpAnyH_take (i := 10) (oi := { dst := some 19, op := Op.fieldAddr 38 (Operand.tmp 3) 1, type := 0, pos := "law.go:46", after := #[{ on := 9, ground := Ground.guard }], guard := some (9, false) }) (v := ?_) rfl (by kernel_rfl) (by kernel_rfl) (by kernel_rfl) (fun _ _ _ h => h) (Or.inl ⟨by rfl, ?_⟩) (by assumption) ?_
  rotate_left
  · (intro w hSw; (try dsimp only at hSw); go_simp <;> (with_reducible rfl))
  try simp only [Act.put, List.setIfInBounds_toArray, List.set_cons_zero, List.set_cons_succ]
  refine wpAnyH_take (i := 11) (oi := { dst := some 20, op := Op.load 5 (Operand.tmp 19), type := 5, pos := "law.go:46", after := #[{ on := 10, ground := Ground.data }, { on := 9, ground := Ground.guard }], guard := some (9, false) }) (v := ?_) rfl (by kernel_rfl) (by kernel_rfl) (by kernel_rfl) (fun _ _ _ h => h) (Or.inl ⟨by rfl, ?_⟩) (by assumption) ?_
  rotate_left
  · (intro w hSw; (try dsimp only at hSw); go_simp <;> (with_reducible rfl))
  try simp only [Act.put, List.setIfInBounds_toArray, List.set_cons_zero, List.set_cons_succ]
  refine wpAnyH_take (i := 12) (oi := { dst := some 21, op := Op.binOp BinOp.neq 5 (Operand.tmp 20) (Operand.const (Value.int IntKind.u8 1)) 5, type := 4, pos := "law.go:46", after := #[{ on := 11, ground := Ground.data }, { on := 9, ground := Ground.guard }], guard := some (9, false) }) (v := ?_) rfl (by kernel_rfl) (by kernel_rfl) (by kernel_rfl) (fun _ _ _ h => h) (Or.inl ⟨by rfl, ?_⟩) (by assumption) ?_
  rotate_left
  · (intro w hSw; (try dsimp only at hSw); go_simp <;> (with_reducible rfl))
  try simp only [Act.put, List.setIfInBounds_toArray, List.set_cons_zero, List.set_cons_succ]
  refine wpAnyH_take (i := 13) (oi := { dst := some 22, op := Op.move (Operand.tmp 21), type := 4, pos := "law.go:46", after := #[{ on := 12, ground := Ground.data }, { on := 9, ground := Ground.chain }, { on := 9, ground := Ground.guard }], guard := some (9, false) }) (v := ?_) rfl (by kernel_rfl) (by kernel_rfl) (by kernel_rfl) (fun _ _ _ h => h) (Or.inl ⟨by rfl, ?_⟩) (by assumption) ?_
  rotate_left
  · (intro w hSw; (try dsimp only at hSw); go_simp <;> (with_reducible rfl))
  try simp only [Act.put, List.setIfInBounds_toArray, List.set_cons_zero, List.set_cons_succ]
  refine wpAnyH_take (i := 14) (oi := { dst := some 23, op := Op.fieldAddr 38 (Operand.tmp 3) 1, type := 0, pos := "law.go:46", after := #[{ on := 13, ground := Ground.guard }], guard := some (13, true) }) (v := undef) rfl (by kernel_rfl) (by kernel_rfl) (by kernel_rfl) (fun _ _ _ h => h) (Or.inr ⟨by rfl, rfl⟩) (by assumption) ?_
  try simp only [Act.put, List.setIfInBounds_toArray, List.set_cons_zero, List.set_cons_succ]
  refine wpAnyH_take (i := 15) (oi := { dst := some 24, op := Op.load 5 (Operand.tmp 23), type := 5, pos := "law.go:46", after := #[{ on := 14, ground := Ground.data }, { on := 13, ground := Ground.guard }], guard := some (13, true) }) (v := undef) rfl (by kernel_rfl) (by kernel_rfl) (by kernel_rfl) (fun _ _ _ h => h) (Or.inr ⟨by rfl, rfl⟩) (by assumption) ?_
  try simp only [Act.put, List.setIfInBounds_toArray, List.set_cons_zero, List.set_cons_succ]
  refine wpAnyH_take (i := 16) (oi := { dst := some 25, op := Op.binOp BinOp.neq 5 (Operand.tmp 24) (Operand.const (Value.int IntKind.u8 2)) 5, type := 4, pos := "law.go:46", after := #[{ on := 15, ground := Ground.data }, { on := 13, ground := Ground.guard }], guard := some (13, true) }) (v := undef) rfl (by kernel_rfl) (by kernel_rfl) (by kernel_rfl) (fun _ _ _ h => h) (Or.inr ⟨by rfl, rfl⟩) (by assumption) ?_
  try simp only [Act.put, List.setIfInBounds_toArray, List.set_cons_zero, List.set_cons_succ]
  refine wpAnyH_take (i := 17) (oi := { dst := some 26, op := Op.pick (Operand.tmp 22) (Operand.tmp 25) (Operand.const (Value.bool false)), type := 4, pos := "law.go:46", after := #[{ on := 13, ground := Ground.data }, { on := 16, ground := Ground.data }, { on := 9, ground := Ground.guard }], guard := some (9, false) }) (v := ?_) rfl (by kernel_rfl) (by kernel_rfl) (by kernel_rfl) (fun _ _ _ h => h) (Or.inl ⟨by rfl, ?_⟩) (by assumption) ?_
  rotate_left
  · (intro w hSw; (try dsimp only at hSw); go_simp <;> (with_reducible rfl))
  try simp only [Act.put, List.setIfInBounds_toArray, List.set_cons_zero, List.set_cons_succ]
  refine wpAnyH_take (i := 18) (oi := { dst := some 27, op := Op.pick (Operand.tmp 18) (Operand.const (Value.bool true)) (Operand.tmp 26), type := 4, pos := "law.go:46", after := #[{ on := 9, ground := Ground.data }, { on := 17, ground := Ground.data }], guard := none }) (v := ?_) rfl (by kernel_rfl) (by kernel_rfl) (by kernel_rfl) (fun _ _ _ h => h) (Or.inl ⟨by rfl, ?_⟩) (by assumption) ?_
  rotate_left
  · (intro w hSw; (try dsimp only at hSw); go_simp <;> (with_reducible rfl))
  try simp only [Act.put, List.setIfInBounds_toArray, List.set_cons_zero, List.set_cons_succ]
  refine wpAnyH_take (i := 19) (oi := { dst := some 28, op := Op.move (Operand.tmp 27), type := 4, pos := "law.go:46", after := #[{ on := 18, ground := Ground.data }, { on := 13, ground := Ground.chain }], guard := none }) (v := ?_) rfl (by kernel_rfl) (by kernel_rfl) (by kernel_rfl) (fun _ _ _ h => h) (Or.inl ⟨by rfl, ?_⟩) (by assumption) ?_
  rotate_left
  · (intro w hSw; (try dsimp only at hSw); go_simp <;> (with_reducible rfl))
  try simp only [Act.put, List.setIfInBounds_toArray, List.set_cons_zero, List.set_cons_succ]
  refine wpAnyH_take (i := 20) (oi := { dst := some 29, op := Op.move (Operand.tmp 0), type := 22, pos := "law.go:46", after := #[{ on := 19, ground := Ground.guard }], guard := some (19, false) }) (v := ?_) rfl (by kernel_rfl) (by kernel_rfl) (by kernel_rfl) (fun _ _ _ h => h) (Or.inl ⟨by rfl, ?_⟩) (by assumption) ?_
  rotate_left
  · (intro w hSw; (try dsimp only at hSw); go_simp <;> (with_reducible rfl))
  try simp only [Act.put, List.setIfInBounds_toArray, List.set_cons_zero, List.set_cons_succ]
  refine wpAnyH_take (i := 22) (oi := { dst := some 31, op := Op.fieldAddr 38 (Operand.tmp 3) 0, type := 0, pos := "law.go:46", after := #[{ on := 19, ground := Ground.guard }], guard := some (19, false) }) (v := ?_) rfl (by kernel_rfl) (by kernel_rfl) (by kernel_rfl) (fun _ _ _ h => h) (Or.inl ⟨by rfl, ?_⟩) (by assumption) ?_
  rotate_left
  · (intro w hSw; (try dsimp only at hSw); go_simp <;> (with_reducible rfl))
  try simp only [Act.put, List.setIfInBounds_toArray, List.set_cons_zero, List.set_cons_succ]
  refine wpAnyH_take (i := 23) (oi := { dst := some 32, op := Op.load 26 (Operand.tmp 31), type := 26, pos := "law.go:46", after := #[{ on := 22, ground := Ground.data }, { on := 19, ground := Ground.guard }], guard := some (19, false) }) (v := ?_) rfl (by kernel_rfl) (by kernel_rfl) (by kernel_rfl) (fun _ _ _ h => h) (Or.inl ⟨by rfl, ?_⟩) (by assumption) ?_
  rotate_left
  · (intro w hSw; (try dsimp only at hSw); go_simp <;> (with_reducible rfl))
  try simp only [Act.put, List.setIfInBounds_toArray, List.set_cons_zero, List.set_cons_succ]
  refine wpAnyH_ready (rs := [21]) (by kernel_rfl) (by simp) ?_
  refine AllReadyH.cons (o := { dst := some 30, op := Op.call { callee := Callee.value (Operand.func 19), args := #[Operand.tmp 29], argTypes := #[22] }, type := 30, pos := "law.go:46", after := #[{ on := 20, ground := Ground.data }, { on := 19, ground := Ground.chain }, { on := 19, ground := Ground.guard }], guard := some (19, false) }) rfl (fun K hK => ?_) AllReadyH.nil
  go_simp
  go_at_call 19; (with_reducible refine (CD _ bv2).mono ?_); rintro r V3 ⟨A5, m5, c5, rfl, hN, bv3, cv3⟩; have hcV3 := HXC.out V3 bv3
  refine hK.out _ _ (by assumption) (fun hH => ?_)
  clear hHeld hK K
  have hHeld := hH
  clear hH
  try simp only [Act.put, List.setIfInBounds_toArray, List.set_cons_zero, List.set_cons_succ]
  refine wpAnyH_ready (rs := [24]) (by kernel_rfl) (by simp) ?_
  refine AllReadyH.cons (o := { dst := some 33, op := Op.call { callee := Callee.value (Operand.func 18), args := #[Operand.tmp 30, Operand.tmp 32], argTypes := #[30, 26] }, type := 4, pos := "law.go:46", after := #[{ on := 21, ground := Ground.data }, { on := 23, ground := Ground.data }, { on := 21, ground := Ground.chain }, { on := 19, ground := Ground.guard }], guard := some (19, false) }) rfl (fun K hK => ?_) AllReadyH.nil
  go_simp
  go_at_call 18; (with_reducible refine (CH _ _ _ _ hN bv3).mono ?_); rintro r V4 ⟨rfl, bv4⟩; have hcV4 := HXC.out V4 bv4
  refine hK.out _ _ (by assumption) (fun hH => ?_)
  clear hHeld hK K
  have hHeld := hH
  clear hH
  try simp only [Act.put, List.setIfInBounds_toArray, List.set_cons_zero, List.set_cons_succ]
  refine wpAnyH_take (i := 25) (oi := { dst := some 34, op := Op.pick (Operand.tmp 28) (Operand.const (Value.bool true)) (Operand.tmp 33), type := 4, pos := "law.go:46", after := #[{ on := 19, ground := Ground.data }, { on := 24, ground := Ground.data }], guard := none }) (v := ?_) rfl (by kernel_rfl) (by kernel_rfl) (by kernel_rfl) (fun _ _ _ h => h) (Or.inl ⟨by rfl, ?_⟩) (by assumption) ?_
  rotate_left
  · (intro w hSw; (try dsimp only at hSw); go_simp <;> (with_reducible rfl))
  try simp only [Act.put, List.setIfInBounds_toArray, List.set_cons_zero, List.set_cons_succ]
  refine wpAnyH_done (by kernel_rfl) ?_ _
  refine NoPanic.normal ?_
  have hg4 : w.heap.size < V4.heap.size := (R0.out.below bv4 R0.out.lt).lt
  have CL := P.liveF V4 A1 l n1 c1 (HL.out.up bv4) hn hk8
  have B4 := Lib.hid bv4
  clear bv bv2 bv3 bv4 hcV hcA hcV2 hcV3 hcV4 hHeld hN cv3 CF1 CD CH
  go_wp2_with fail
  refine CL.mono ?_
  rintro r w3 ⟨A3, n3, c3, rfl, f3, b3⟩
  have F3 := Lib.hid f3
  have B3 := Lib.hid (B4.out.trans (b3.mono B4.out.size))
  have hg3 : w.heap.size < w3.heap.size := Nat.lt_of_lt_of_le hg4 b3.size
  have hn3 : n3 ≤ 15 := by have h1 := (few_all hfl).1; have h2 := live_len l; have h3 := f3.at_.len; omega
  have hkl : ∀ x ∈ liveE l, x.kills.length ≤ 300 := fun x hx => (few_all hfl).2 x (live_in hx)
  clear f3 b3 CL
  have R3 := Lib.hid (R0.out.below B3.out R0.out.lt)
  obtain ⟨x0, x1, x2, x3, x4, x5, x6⟩ := ev_cells R3.out
  have CE := P.editF w3 A3 (liveE l) n3 c3 q.cid q.fld F3.out.at_ (by omega) (fun x hx => Nat.le_trans (hkl x hx) (by decide)) (by rw [HQO.out.cid]; exact HQO.out.fits.cid) (by rw [HQO.out.fld]; exact HQO.out.fits.fld)
  go_wp2_with fail
  refine CE.mono ?_
  rintro r w4 ⟨A5, n5, c5, rfl, d5, far5, b4⟩
  have R4 := Lib.hid (R3.out.below b4 hg3)
  have t6 := R4.out.cell 6
  have g6 := R4.out.frozen 6
  simp at t6
  have HW4 := Lib.hid (HB.out.trans ((B3.out.trans (b4.mono B3.out.size)).mono HB.out.size))
  have F4 := Lib.hid (F3.out.up b4)
  have D4 := Lib.hid d5
  have FAR := Lib.hid far5
  clear x0 x1 x2 x3 x4 x5 x6 CE b4 d5 far5 F3
  go_upto_region 7 with fail
  have R5 : Hid (At (w4.setCell ⟨w.heap.size, 6, none⟩ (.slice A5 n5 c5)) w.heap.size 38 (ebox ⟨q.dev, q.num, q.kind, q.cid, q.fld, q.txt, A5, n5, c5⟩)) := Lib.hid (R4.out.set 6 (.slice A5 n5 c5))
  have E5 := Lib.hid (F4.out.set hg4 6 (.slice A5 n5 c5))
  have HW5 := Lib.hid (bel_set (g := w.heap.size) (i := 6) HW4.out (Nat.le_refl _) (.slice A5 n5 c5))
  have D5 := Lib.hid (dots_set (g := w.heap.size) D4.out (fun h0 ad ea => by have := FAR.out h0 ad ea; omega) 6 (.slice A5 n5 c5))
  generalize w4.setCell ⟨w.heap.size, 6, none⟩ (.slice A5 n5 c5) = w5 at *
  have hnk : newK l e.kind e.cid e.fld = Ev.dotsE ((liveE l).filter (editB q.cid q.fld)) := by unfold newK; rw [hkd, kills_edit, HQO.out.cid, HQO.out.fld]
  have Q5 : Hid (Ev.EventIs w5 w5.heap.size ⟨q.dev, q.num, q.kind, q.cid, q.fld, q.txt, A5, n5, c5⟩ (withK l e)) := Lib.hid ⟨HQO.out.dev, HQO.out.num, HQO.out.kind, HQO.out.cid, HQO.out.fld, HQO.out.txt, ⟨HQO.out.fits.dot, HQO.out.fits.kind, HQO.out.fits.cid, HQO.out.fits.fld, HQO.out.fits.txt⟩, by show Ev.DotsAt w5 w5.heap.size A5 (newK l e.kind e.cid e.fld) n5 c5; rw [hnk]; exact D5.out⟩
  have hlen5 : (newK l e.kind e.cid e.fld).length ≤ 65536 := by
    rw [hnk, D5.out.len]
    have h1 := dots_len (l := (liveE l).filter (editB q.cid q.fld)) (fun x hx => Nat.le_trans (hkl x (List.mem_filter.1 hx).1) (by decide))
    have h2 := List.length_filter_le (editB q.cid q.fld) (liveE l)
    have h3 := live_len l
    have h4 := (few_all hfl).1
    rw [D5.out.len] at h1
    omega
  have L5 := Lib.hid (HLO.out.up HW5.out)
  obtain ⟨psl, lsl, msl⟩ := L5.out.evts
  have hpl : psl.length = n1 := by rw [msl.1]; exact L5.out.len
  have hlv : liveE (l ++ [withK l e]) = wantE l e.kind e.cid e.fld (withK l e) := new_live l (withK l e) (.inl hkd) (of_decide_eq_false hh0) rfl
  have hn15 : n1 ≤ 15 := by have h1 := (few_all hfl).1; have h2 := HLO.out.len; omega
  have HN1 : Hid (n1 ≤ 1649267441664) := Lib.hid (by omega)
  have HN2 : Hid (n1 + 1 ≤ 1649267441664) := Lib.hid (by omega)
  have HPL := Lib.hid hpl
  have HNL := Lib.hid L5.out.nil
  have HLI := Lib.hid (fun W (hW : Below w5.heap.size w5 W) => ((lsl.below hW).more hW.size : Dt.Lies W W.heap.size A1 (Ev.ev psl)))
  have HEV := Lib.hid (fun (W : World) (A : Option Addr) (c : Nat) (hW : Below w5.heap.size w5 W) (ho : W.ownsRow w5.heap.size 38 7 (.slice A (n1 + 1) c) (n1 + 1) (Ev.ev (([] ++ psl) ++ [⟨q.dev, q.num, q.kind, q.cid, q.fld, q.txt, A5, n5, c5⟩]))) => (Ev.own_events (w := w5) (w1 := w5) (wr := W) (ps := psl ++ [⟨q.dev, q.num, q.kind, q.cid, q.fld, q.txt, A5, n5, c5⟩]) hW (msl.snoc Q5.out) (by rw [List.length_append, hpl]; rfl) (by omega) ho : Ev.EventsAt W W.heap.size A (l ++ [withK l e]) (n1 + 1) c))
  have A17 := fun W (hW : Below w5.heap.size w5 W) A c (h : Ev.EventsAt W W.heap.size A (l ++ [withK l e]) (n1 + 1) c) => later_evts hW (P.live W A (l ++ [withK l e]) (n1 + 1) c h (by omega) (fun x hx => (List.mem_append.1 hx).elim (hk8 x) (fun hx => by rw [List.mem_singleton.1 hx]; exact hlen5)))
  simp only [hlv] at A17
  have HX5 : Hid (∀ V, Below w5.heap.size w5 V → V.cell? ⟨w.heap.size, 0, none⟩ = some (.int .u16 (q.dev : Int)) ∧ V.cell? ⟨w.heap.size, 1, none⟩ = some (.int .u64 (q.num : Int)) ∧ V.cell? ⟨w.heap.size, 2, none⟩ = some (.int .u8 (q.kind : Int)) ∧ V.cell? ⟨w.heap.size, 3, none⟩ = some (.int .u64 (q.cid : Int)) ∧ V.cell? ⟨w.heap.size, 4, none⟩ = some (.int .u8 (q.fld : Int)) ∧ V.cell? ⟨w.heap.size, 5, none⟩ = some (.string q.txt) ∧ V.cell? ⟨w.heap.size, 6, none⟩ = some (.slice A5 n5 c5)) := Lib.hid (fun V hV => ev_cells (q := ⟨q.dev, q.num, q.kind, q.cid, q.fld, q.txt, A5, n5, c5⟩) (R5.out.below hV R5.out.lt))
  obtain ⟨x0, x1, x2, x3, x4, x5, x6⟩ := HX5.out _ (Below.refl _ _)
  clear hnk hlen5 lsl msl hpl hlv hk8 hn hk hkl g6 t6 hg3 hg4 R0 B4 B3 R3 R4 F4 D4 FAR HXC HL HB hh0
  have OWI : Hid (((w5.alloc (.cells #[] 38)).drew).ownsRow w5.heap.size 38 7 (.slice (some ⟨w5.heap.size, 0, none⟩) 0 0) 0 (Ev.ev [])) := Lib.hid (Dt.own_kept (own_litE (Below.refl _ _)) (Ev.bel_drew (Below.refl _ _)))
  have OWII : Hid ((((w5.alloc (.cells #[] 38)).alloc (.cells #[.int .u16 (q.dev : Int), .int .u64 (q.num : Int), .int .u8 (q.kind : Int), .int .u64 (q.cid : Int), .int .u8 (q.fld : Int), .string q.txt, .slice A5 n5 c5] 38)).drew).ownsRow w5.heap.size 38 7 (.slice (some ⟨w5.heap.size, 0, none⟩) 0 0) 0 (Ev.ev [])) := Lib.hid (Dt.own_kept (own_litE (Below.refl _ _)) (Ev.bel_drew (Ev.below_new _ _)))
  have OWIII : Hid ((((w5.alloc (.cells #[.int .u16 (q.dev : Int), .int .u64 (q.num : Int), .int .u8 (q.kind : Int), .int .u64 (q.cid : Int), .int .u8 (q.fld : Int), .string q.txt, .slice A5 n5 c5] 38)).alloc (.cells #[] 38)).drew).ownsRow w5.heap.size 38 7 (.slice (some ⟨w5.heap.size + 1, 0, none⟩) 0 0) 0 (Ev.ev [])) := Lib.hid (by
    have h := own_litE (W := w5) (V := w5.alloc (.cells #[.int .u16 (q.dev : Int), .int .u64 (q.num : Int), .int .u8 (q.kind : Int), .int .u64 (q.cid : Int), .int .u8 (q.fld : Int), .string q.txt, .slice A5 n5 c5] 38)) (Ev.below_new _ _)
    rw [Ev.alloc_size] at h
    exact Dt.own_kept h (Ev.bel_drew (Below.refl _ _)))
  have LSII : Hid (Dt.Lies (((w5.alloc (.cells #[] 38)).alloc (.cells #[.int .u16 (q.dev : Int), .int .u64 (q.num : Int), .int .u8 (q.kind : Int), .int .u64 (q.cid : Int), .int .u8 (q.fld : Int), .string q.txt, .slice A5 n5 c5] 38)).drew) (((w5.alloc (.cells #[] 38)).alloc (.cells #[.int .u16 (q.dev : Int), .int .u64 (q.num : Int), .int .u8 (q.kind : Int), .int .u64 (q.cid : Int), .int .u8 (q.fld : Int), .string q.txt, .slice A5 n5 c5] 38)).drew).heap.size (some ⟨w5.heap.size + 1, 0, none⟩) (Ev.ev [⟨q.dev, q.num, q.kind, q.cid, q.fld, q.txt, A5, n5, c5⟩])) := Lib.hid (by
    have h := Ev.lies_evt (w5.alloc (.cells #[] 38)) ⟨q.dev, q.num, q.kind, q.cid, q.fld, q.txt, A5, n5, c5⟩
    rw [Ev.alloc_size w5 (.cells #[] 38)] at h
    exact lies_drew h)
  have LSIII : Hid (Dt.Lies (((w5.alloc (.cells #[.int .u16 (q.dev : Int), .int .u64 (q.num : Int), .int .u8 (q.kind : Int), .int .u64 (q.cid : Int), .int .u8 (q.fld : Int), .string q.txt, .slice A5 n5 c5] 38)).alloc (.cells #[] 38)).drew) (((w5.alloc (.cells #[.int .u16 (q.dev : Int), .int .u64 (q.num : Int), .int .u8 (q.kind : Int), .int .u64 (q.cid : Int), .int .u8 (q.fld : Int), .string q.txt, .slice A5 n5 c5] 38)).alloc (.cells #[] 38)).drew).heap.size (some ⟨w5.heap.size, 0, none⟩) (Ev.ev [⟨q.dev, q.num, q.kind, q.cid, q.fld, q.txt, A5, n5, c5⟩])) := Lib.hid (by
    have h := Ev.lies_evt w5 ⟨q.dev, q.num, q.kind, q.cid, q.fld, q.txt, A5, n5, c5⟩
    exact lies_drew ((h.below (Ev.below_new (w5.alloc (.cells #[.int .u16 (q.dev : Int), .int .u64 (q.num : Int), .int .u8 (q.kind : Int), .int .u64 (q.cid : Int), .int .u8 (q.fld : Int), .string q.txt, .slice A5 n5 c5] 38)) (.cells #[] 38))).more (Ev.below_new (w5.alloc (.cells #[.int .u16 (q.dev : Int), .int .u64 (q.num : Int), .int .u8 (q.kind : Int), .int .u64 (q.cid : Int), .int .u8 (q.fld : Int), .string q.txt, .slice A5 n5 c5] 38)) (.cells #[] 38)).size))
  go_region_held3 (fun V => V.cell? ⟨w.heap.size, 0, none⟩ = some (.int .u16 (q.dev : Int)) ∧ V.cell? ⟨w.heap.size, 1, none⟩ = some (.int .u64 (q.num : Int)) ∧ V.cell? ⟨w.heap.size, 2, none⟩ = some (.int .u8 (q.kind : Int)) ∧ V.cell? ⟨w.heap.size, 3, none⟩ = some (.int .u64 (q.cid : Int)) ∧ V.cell? ⟨w.heap.size, 4, none⟩ = some (.int .u8 (q.fld : Int)) ∧ V.cell? ⟨w.heap.size, 5, none⟩ = some (.string q.txt) ∧ V.cell? ⟨w.heap.size, 6, none⟩ = some (.slice A5 n5 c5)) (first | exact ⟨x0, x1, x2, x3, x4, x5, x6⟩ | assumption | exact HX5.out _ (by repeat (first | exact Below.refl _ _ | assumption | apply Ev.bel_drew | apply Ev.bel_alloc))) (first
    | (refine step_evts (by first | rfl | decide) (.tmp 53) (.tmp 54) rfl rfl _ w5 0 n1 (.slice (some ⟨w5.heap.size, 0, none⟩) 0 0) [] A1 psl n1 c1 rfl rfl ?_ OWI.out HNL.out (HLI.out _ ?_) HPL.out (Nat.zero_add _) HN1.out ?_; (focus (repeat (first | exact Below.refl _ _ | assumption | apply Ev.bel_drew | apply Ev.bel_alloc))); (focus (repeat (first | exact Below.refl _ _ | assumption | apply Ev.bel_drew | apply Ev.bel_alloc))); intro A7 c7 w7 ho7 hg7 hb7; have hcV := HX5.out w7 hb7)
    | (refine step_evts (by first | rfl | decide) (.tmp 53) (.tmp 54) rfl rfl _ w5 0 n1 (.slice (some ⟨w5.heap.size, 0, none⟩) 0 0) [] A1 psl n1 c1 rfl rfl ?_ OWII.out HNL.out (HLI.out _ ?_) HPL.out (Nat.zero_add _) HN1.out ?_; (focus (repeat (first | exact Below.refl _ _ | assumption | apply Ev.bel_drew | apply Ev.bel_alloc))); (focus (repeat (first | exact Below.refl _ _ | assumption | apply Ev.bel_drew | apply Ev.bel_alloc))); intro A7 c7 w7 ho7 hg7 hb7; have hcV := HX5.out w7 hb7; have hsrc := lies_row LSII.out hg7 (fun ad ea eb => by cases ea; exact absurd (show w5.heap.size + 1 = w5.heap.size from Option.some.inj eb) (by omega)))
    | (refine step_evts (by first | rfl | decide) (.tmp 53) (.tmp 54) rfl rfl _ w5 0 n1 (.slice (some ⟨w5.heap.size + 1, 0, none⟩) 0 0) [] A1 psl n1 c1 rfl rfl ?_ OWIII.out HNL.out (HLI.out _ ?_) HPL.out (Nat.zero_add _) HN1.out ?_; (focus (repeat (first | exact Below.refl _ _ | assumption | apply Ev.bel_drew | apply Ev.bel_alloc))); (focus (repeat (first | exact Below.refl _ _ | assumption | apply Ev.bel_drew | apply Ev.bel_alloc))); intro A7 c7 w7 ho7 hg7 hb7; have hcV := HX5.out w7 hb7; have hsrc := lies_row LSIII.out hg7 (fun ad ea eb => by cases ea; exact absurd (show w5.heap.size = w5.heap.size + 1 from Option.some.inj eb) (by omega)))
    | (refine step_evts (by first | rfl | decide) (.tmp 55) (.tmp 57) rfl rfl _ w5 n1 (n1 + 1) (.slice A7 n1 c7) ([] ++ psl) (some ⟨w7.heap.size, 0, none⟩) [⟨q.dev, q.num, q.kind, q.cid, q.fld, q.txt, A5, n5, c5⟩] 1 1 rfl rfl (Ev.bel_alloc _ hb7) (ho7.alloc _) (fun h => by cases h) (Ev.lies_evt w7 ⟨q.dev, q.num, q.kind, q.cid, q.fld, q.txt, A5, n5, c5⟩) rfl rfl HN2.out ?_; intro A9 c9 w9 ho9 hg9 hb9; have hcV := HX5.out w9 hb9; have hev := HEV.out w9 A9 c9 hb9 ho9)
    | (refine step_evts (by first | rfl | decide) (.tmp 55) (.tmp 57) rfl rfl _ w5 n1 (n1 + 1) (.slice A7 n1 c7) ([] ++ psl) _ [⟨q.dev, q.num, q.kind, q.cid, q.fld, q.txt, A5, n5, c5⟩] 1 1 rfl rfl hb7 ho7 (fun h => by cases h) hsrc rfl rfl HN2.out ?_; intro A9 c9 w9 ho9 hg9 hb9; have hcV := HX5.out w9 hb9; have hev := HEV.out w9 A9 c9 hb9 ho9)
    | (go_at_call 16; (with_reducible refine (A17 _ ?_ _ _ ?_).mono ?_); (focus (repeat (first | exact Below.refl _ _ | assumption | apply Ev.bel_drew | apply Ev.bel_alloc))); (focus exact hev); rintro r V ⟨A6, n6, c6, rfl, hM, bv, cv⟩; have hcV := HX5.out V bv))
  all_goals
    have HV := Lib.hid (HW5.out.trans (bv.mono HW5.out.size))
    have MV := Lib.hid hM
    have EV5 := Lib.hid (E5.out.up bv)
    have HXV : Hid (∀ U, Below V.heap.size V U → U.cell? ⟨w.heap.size, 0, none⟩ = some (.int .u16 (q.dev : Int)) ∧ U.cell? ⟨w.heap.size, 1, none⟩ = some (.int .u64 (q.num : Int)) ∧ U.cell? ⟨w.heap.size, 2, none⟩ = some (.int .u8 (q.kind : Int)) ∧ U.cell? ⟨w.heap.size, 3, none⟩ = some (.int .u64 (q.cid : Int)) ∧ U.cell? ⟨w.heap.size, 4, none⟩ = some (.int .u8 (q.fld : Int)) ∧ U.cell? ⟨w.heap.size, 5, none⟩ = some (.string q.txt) ∧ U.cell? ⟨w.heap.size, 6, none⟩ = some (.slice A5 n5 c5)) := Lib.hid (fun U hU => HX5.out U (bv.trans (hU.mono bv.size)))
    have QV := Lib.hid (Q5.out.up bv)
    clear x0 x1 x2 x3 x4 x5 x6 bv hM cv hcV
    go_wp2_with fail
    go_loopw [7, 8] (fun v i wr => ∃ (k m : Nat) (A : Option Addr) (c : Nat), k ≤ n3 ∧ i = .int .i64 (k : Int) ∧ v = .slice A m c ∧ Ev.EventsAt wr wr.heap.size A (stayTo l e k) m c ∧ Below V.heap.size V wr) (fun _ i _ => n3 - (intOf i).toNat)
    case atStart => exact ⟨0, 0, none, 0, Nat.zero_le _, rfl, rfl, Ev.EventsAt.none_ _ _, Below.refl _ _⟩
    case round =>
      obtain ⟨k, m, A, c, hk, rfl, rfl, ho, hw⟩ := hrel
      have HO := Lib.hid ho
      have HW := Lib.hid hw
      have hmk := stay_len l e k
      rw [ho.len] at hmk
      clear ho hw
      by_cases hlt : k < n3
      · obtain ⟨ad, p, y, rfl, hB, hly, hp, cp⟩ := EV5.out.at_ hlt
        have HPY := Lib.hid hp
        have HCP := Lib.hid cp
        have HSK := Lib.hid (fun h => stay_skip (e := e) hly h)
        have HST := Lib.hid (fun h => stay_take (e := e) hly h)
        have HF : Hid (stayB e.kind e.cid e.fld y = ((p.cid : Int) != (q.cid : Int) || ((p.fld : Int) != (q.fld : Int)))) := Lib.hid (by unfold stayB; rw [hkd, bne, bne, eq_u8, eq_u8, HPY.out.cid, HPY.out.fld, HQO.out.cid, HQO.out.fld]; simp)
        obtain ⟨e0, e1, e2, e3, e4, e5, e6⟩ := cp.kept HW.out
        obtain ⟨x0, x1, x2, x3, x4, x5, x6⟩ := HXV.out _ HW.out
        clear hly hp cp
        cases h1 : ((p.cid : Int) != (q.cid : Int)) with
        | true =>
          have HN := Lib.hid (HST.out (by rw [HF.out, h1]; rfl))
          have CP := fun j => Ev.rput_any (wr.drewN j) A _ m c p y (HO.out.up (Ev.below_drewN _ _ _)) (HPY.out.up (Ev.bel_drewN HW.out j)) (by omega)
          simp only [Ev.EV.val] at CP
          go_wp2_with fail
          go_quiet (fail)
          go_wp2_with fail
          refine (CP _).mono ?_
          rintro r U ⟨A8, m8, c8, rfl, ho8, hb8⟩
          rw [← HN.out] at ho8
          have HO8 := Lib.hid ho8
          have HW8 := Lib.hid ((Ev.bel_drewN HW.out _).trans (hb8.mono (Ev.bel_drewN HW.out _).size))
          clear CP ho8 hb8 e0 e1 e2 e3 e4 e5 e6 x0 x1 x2 x3 x4 x5 x6
          go_wp2
          go_roundw
          case rel => exact ⟨k + 1, m8, A8, c8, by omega, by go_num, rfl, HO8.out, HW8.out⟩
          case measure => simp [intOf]; omega
        | false =>
          cases h2 : ((p.fld : Int) != (q.fld : Int)) with
          | true =>
            have HN := Lib.hid (HST.out (by rw [HF.out, h1, h2]; rfl))
            have CP := fun j => Ev.rput_any (wr.drewN j) A _ m c p y (HO.out.up (Ev.below_drewN _ _ _)) (HPY.out.up (Ev.bel_drewN HW.out j)) (by omega)
            simp only [Ev.EV.val] at CP
            go_wp2_with fail
            go_quiet (fail)
            go_wp2_with fail
            refine (CP _).mono ?_
            rintro r U ⟨A8, m8, c8, rfl, ho8, hb8⟩
            rw [← HN.out] at ho8
            have HO8 := Lib.hid ho8
            have HW8 := Lib.hid ((Ev.bel_drewN HW.out _).trans (hb8.mono (Ev.bel_drewN HW.out _).size))
            clear CP ho8 hb8 e0 e1 e2 e3 e4 e5 e6 x0 x1 x2 x3 x4 x5 x6
            go_wp2
            go_roundw
            case rel => exact ⟨k + 1, m8, A8, c8, by omega, by go_num, rfl, HO8.out, HW8.out⟩
            case measure => simp [intOf]; omega
          | false =>
            have HN := Lib.hid (HSK.out (by rw [HF.out, h1, h2]; rfl))
            go_wp2_with fail
            go_quiet (fail)
            go_wp2
            go_roundw
            case rel => exact ⟨k + 1, m, A, c, by omega, by go_num, rfl, by rw [HN.out]; exact HO.out.up (Ev.below_drewN _ _ _), Ev.bel_drewN HW.out _⟩
            case measure => simp [intOf]; omega
      · obtain rfl : k = n3 := by omega
        have hall := stay_all l e EV5.out.len
        rw [hall] at HO
        obtain ⟨x0, x1, x2, x3, x4, x5, x6⟩ := HXV.out _ HW.out
        have MW := Lib.hid (MV.out.up HW.out)
        have HWW := Lib.hid (HV.out.trans (HW.out.mono HV.out.size))
        have HWT : Hid (wantE l e.kind e.cid e.fld (withK l e) = Ev.putE (((liveE l).filter (stayB e.kind e.cid e.fld)).foldl Ev.putE []) (withK l e)) := Lib.hid (by unfold wantE; rw [hkd, if_pos rfl])
        have CP := Ev.rput_any wr A _ m c ⟨q.dev, q.num, q.kind, q.cid, q.fld, q.txt, A5, n5, c5⟩ (withK l e) HO.out (QV.out.up HW.out) (by omega)
        simp only [Ev.EV.val] at CP
        go_wp2_with fail
        refine CP.mono ?_
        rintro r U ⟨A8, m8, c8, rfl, ho8, hb8⟩
        rw [← HWT.out] at ho8
        have CA := same_evts (w := U) (Below.refl _ _) (MW.out.up hb8) ho8
        have HU := Lib.hid (HWW.out.trans (hb8.mono HWW.out.size))
        clear CP ho8 hb8 x0 x1 x2 x3 x4 x5 x6
        go_wp2_with fail
        refine CA.mono ?_
        rintro r U2 ⟨rfl, hb2⟩
        have HU2 := Lib.hid (HU.out.trans (hb2.mono HU.out.size))
        clear CA hb2
        go_wp2_with fail
        refine (works_any P _).mono ?_
        rintro r U3 ⟨rfl, hb3⟩
        have HU3 := Lib.hid (HU2.out.trans (hb3.mono HU2.out.size))
        clear hb3
        go_wp2
        go_ret
        exact ⟨rfl, HU3.out⟩
set_option maxHeartbeats 16000000 in
theorem new_e2 (P : PKl) (w : World) (A1 : Option Addr) (l : List Ev.Evt) (q : Ev.EV) (e : Ev.Evt) (n1 c1 : Nat) (hl : Ev.EventsAt w w.heap.size A1 l n1 c1) (hq : Ev.EventIs w w.heap.size q e) (hfl : Ev.fewB l 15 = true) (hfe : Ev.fewB [e] 1 = true) (hkd : e.kind = 2) (hh : decide (e.dot ∈ Ev.dotsE l) = false) :
    Calls Try.prog 4 #[.slice A1 n1 c1, q.val] w fun e w' => e = .returned (.bool true) ∧ Below w.heap.size w w' := by
  have hn : n1 ≤ 1024 := by have h1 := (few_all hfl).1; have h2 := hl.len; omega
  have hk : ∀ x ∈ l, x.kills.length ≤ 1024 := fun x hx => Nat.le_trans ((few_all hfl).2 x hx) (by decide)
  have HB := Lib.hid (Ev.below_new w q.box)
  have HL := Lib.hid (hl.up HB.out)
  have HQ := Lib.hid (hq.up HB.out)
  have HXC := Lib.hid (fun V (hV : Below (w.alloc q.box).heap.size (w.alloc q.box) V) => (Ev.box_new w q V (by rw [Ev.alloc_size] at hV; exact hV)).all)
  have hdot := Ev.is_dot hq
  simp only [Ev.EV.val]
  simp only [Ev.EV.box] at HB HL HQ HXC
  have k1 : ((q.kind : Int) != 1) = true := by rw [hq.kind, hkd]; rfl
  have k2 : ((q.kind : Int) != 2) = false := by rw [hq.kind, hkd]; rfl
  have k3 : ((q.kind : Int) == 1) = false := by rw [hq.kind, hkd]; rfl
  have HLO := Lib.hid hl
  have HQO := Lib.hid hq
  have R0 : Hid (At (w.alloc q.box) w.heap.size 38 (ebox q)) := Lib.hid (At.new w _ _)
  have hk8 : ∀ x ∈ l, x.kills.length ≤ 65536 := fun x hx => Nat.le_trans (hk x hx) (by decide)
  have hh0 := hh
  clear hl hq
  go_enter Try.func4, Try.ntmps4
  go_upto_region 1 with fail
  generalize w.alloc (.cells #[.int .u16 (q.dev : Int), .int .u64 (q.num : Int), .int .u8 (q.kind : Int), .int .u64 (q.cid : Int), .int .u8 (q.fld : Int), .string q.txt, .slice q.adr q.len q.cap] 38) = w1 at *
  have CF1 := fun W (hW : Below w1.heap.size w1 W) => (Ev.rfew_any W A1 l n1 c1 15 (by decide) (HL.out.up hW)).mono (fun r V (h : r = .returned (.bool (Ev.fewB l 15)) ∧ V = W) => (⟨h.1, by rw [h.2]; exact hW⟩ : r = .returned (.bool (Ev.fewB l 15)) ∧ Below w1.heap.size w1 V))
  simp only [show ((15 : Nat) : Int) = 15 from rfl, hfl] at CF1
  have CD := fun W (hW : Below w1.heap.size w1 W) => later_dots hW (Ev.rdots_any W A1 l n1 c1 (HL.out.up hW) hn hk)
  have CH := fun W A m c (h : Ev.DotsAt W W.heap.size A (Ev.dotsE l) m c) (hW : Below w1.heap.size w1 W) => rhas_later w1 W A (Ev.dotsE l) m c (q.dev, q.num) h hW
  rw [hdot] at hh
  simp only [hh] at CH
  refine wp_region_noPanic ?_
  refine wp_region_held_drew (S := fun V => V.cell? ⟨w.heap.size, 0, none⟩ = some (.int .u16 (q.dev : Int)) ∧ V.cell? ⟨w.heap.size, 1, none⟩ = some (.int .u64 (q.num : Int)) ∧ V.cell? ⟨w.heap.size, 2, none⟩ = some (.int .u8 (q.kind : Int)) ∧ V.cell? ⟨w.heap.size, 3, none⟩ = some (.int .u64 (q.cid : Int)) ∧ V.cell? ⟨w.heap.size, 4, none⟩ = some (.int .u8 (q.fld : Int)) ∧ V.cell? ⟨w.heap.size, 5, none⟩ = some (.string q.txt) ∧ V.cell? ⟨w.heap.size, 6, none⟩ = some (.slice q.adr q.len q.cap)) (by kernel_rfl) (HXC.out _ (Ev.bel_drew (Below.refl _ _))) (fun hHeld => ?_)
  refine wpAnyH_take (i := 0) (oi := { dst := some 9, op := Op.move (Operand.tmp 0), type := 22, pos := "law.go:46", after := #[], guard := none }) (v := ?_) rfl (by kernel_rfl) (by kernel_rfl) (by kernel_rfl) (fun _ _ _ h => h) (Or.inl ⟨by rfl, ?_⟩) (by assumption) ?_
  rotate_left
  · (intro w hSw; (try dsimp only at hSw); go_simp <;> (with_reducible rfl))
  try simp only [Act.put, List.setIfInBounds_toArray, List.set_cons_zero, List.set_cons_succ]
  refine wpAnyH_ready (rs := [1]) (by kernel_rfl) (by simp) ?_
  refine AllReadyH.cons (o := { dst := some 10, op := Op.call { callee := Callee.value (Operand.func 6), args := #[Operand.tmp 9, Operand.const (Value.int IntKind.i64 15)], argTypes := #[22, 3] }, type := 4, pos := "law.go:46", after := #[{ on := 0, ground := Ground.data }], guard := none }) rfl (fun K hK => ?_) AllReadyH.nil
  go_simp
  go_at_call 6; (with_reducible refine (CF1 _ ?_).mono ?_); (focus (repeat (first | exact Below.refl _ _ | assumption | apply Ev.bel_drew | apply Ev.bel_alloc))); rintro r V ⟨rfl, bv⟩; have hcV := HXC.out V bv
  refine hK.out _ _ (by assumption) (fun hH => ?_)
  clear hHeld hK K
  have hHeld := hH
  clear hH
  try simp only [Act.put, List.setIfInBounds_toArray, List.set_cons_zero, List.set_cons_succ]
  refine wpAnyH_take (i := 2) (oi := { dst := some 11, op := Op.unOp UnOp.not 4 (Operand.tmp 10), type := 4, pos := "law.go:46", after := #[{ on := 1, ground := Ground.data }], guard := none }) (v := ?_) rfl (by kernel_rfl) (by kernel_rfl) (by kernel_rfl) (fun _ _ _ h => h) (Or.inl ⟨by rfl, ?_⟩) (by assumption) ?_
  rotate_left
  · (intro w hSw; (try dsimp only at hSw); go_simp <;> (with_reducible rfl))
  try simp only [Act.put, List.setIfInBounds_toArray, List.set_cons_zero, List.set_cons_succ]
  refine wpAnyH_take (i := 3) (oi := { dst := some 12, op := Op.move (Operand.tmp 11), type := 4, pos := "law.go:46", after := #[{ on := 2, ground := Ground.data }, { on := 1, ground := Ground.chain }], guard := none }) (v := ?_) rfl (by kernel_rfl) (by kernel_rfl) (by kernel_rfl) (fun _ _ _ h => h) (Or.inl ⟨by rfl, ?_⟩) (by assumption) ?_
  rotate_left
  · (intro w hSw; (try dsimp only at hSw); go_simp <;> (with_reducible rfl))
  try simp only [Act.put, List.setIfInBounds_toArray, List.set_cons_zero, List.set_cons_succ]
  refine wpAnyH_take (i := 4) (oi := { dst := some 13, op := Op.load 38 (Operand.tmp 3), type := 38, pos := "law.go:46", after := #[{ on := 3, ground := Ground.guard }], guard := some (3, false) }) (v := ?_) rfl (by kernel_rfl) (by kernel_rfl) (by kernel_rfl) (fun _ _ _ h => h) (Or.inl ⟨by rfl, ?_⟩) (by assumption) ?_
  rotate_left
  · (intro w hSw; (try dsimp only at hSw); go_simp <;> (with_reducible rfl))
  try simp only [Act.put, List.setIfInBounds_toArray, List.set_cons_zero, List.set_cons_succ]
  refine wpAnyH_ready (rs := [5]) (by kernel_rfl) (by simp) ?_
  refine AllReadyH.cons (o := { dst := some 14, op := Op.buildSlice 22 1 #[(0, Operand.tmp 13)], type := 22, pos := "law.go:46", after := #[{ on := 4, ground := Ground.data }, { on := 3, ground := Ground.guard }], guard := some (3, false) }) rfl (fun K hK => ?_) AllReadyH.nil
  go_simp
  have hcA := HXC.out (V.alloc (.cells #[.int .u16 (q.dev : Int), .int .u64 (q.num : Int), .int .u8 (q.kind : Int), .int .u64 (q.cid : Int), .int .u8 (q.fld : Int), .string q.txt, .slice q.adr q.len q.cap] 38)) (Ev.bel_alloc _ bv)
  refine hK.out _ _ (by assumption) (fun hH => ?_)
  clear hHeld hK K
  have hHeld := hH
  clear hH
  try simp only [Act.put, List.setIfInBounds_toArray, List.set_cons_zero, List.set_cons_succ]
  refine wpAnyH_ready (rs := [6]) (by kernel_rfl) (by simp) ?_
  refine AllReadyH.cons (o := { dst := some 15, op := Op.call { callee := Callee.value (Operand.func 6), args := #[Operand.tmp 14, Operand.const (Value.int IntKind.i64 1)], argTypes := #[22, 3] }, type := 4, pos := "law.go:46", after := #[{ on := 5, ground := Ground.data }, { on := 3, ground := Ground.chain }, { on := 3, ground := Ground.guard }], guard := some (3, false) }) rfl (fun K hK => ?_) AllReadyH.nil
  go_simp
  go_at_call 6; (refine (few_one hfe (Ev.bel_alloc _ bv) (Ev.lies_evt V q) (HQ.out.up (Ev.bel_alloc _ bv))).mono ?_); rintro r V2 ⟨rfl, bv2⟩; have hcV2 := HXC.out V2 bv2
  refine hK.out _ _ (by assumption) (fun hH => ?_)
  clear hHeld hK K
  have hHeld := hH
  clear hH
  try simp only [Act.put, List.setIfInBounds_toArray, List.set_cons_zero, List.set_cons_succ]
  refine wpAnyH_take (i := 7) (oi := { dst := some 16, op := Op.unOp UnOp.not 4 (Operand.tmp 15), type := 4, pos := "law.go:46", after := #[{ on := 6, ground := Ground.data }, { on := 3, ground := Ground.guard }], guard := some (3, false) }) (v := ?_) rfl (by kernel_rfl) (by kernel_rfl) (by kernel_rfl) (fun _ _ _ h => h) (Or.inl ⟨by rfl, ?_⟩) (by assumption) ?_
  rotate_left
  · (intro w hSw; (try dsimp only at hSw); go_simp <;> (with_reducible rfl))
  try simp only [Act.put, List.setIfInBounds_toArray, List.set_cons_zero, List.set_cons_succ]
  refine wpAnyH_take (i := 8) (oi := { dst := some 17, op := Op.pick (Operand.tmp 12) (Operand.const (Value.bool true)) (Operand.tmp 16), type := 4, pos := "law.go:46", after := #[{ on := 3, ground := Ground.data }, { on := 7, ground := Ground.data }], guard := none }) (v := ?_) rfl (by kernel_rfl) (by kernel_rfl) (by kernel_rfl) (fun _ _ _ h => h) (Or.inl ⟨by rfl, ?_⟩) (by assumption) ?_
  rotate_left
  · (intro w hSw; (try dsimp only at hSw); go_simp <;> (with_reducible rfl))
  try simp only [Act.put, List.setIfInBounds_toArray, List.set_cons_zero, List.set_cons_succ]
  refine wpAnyH_take (i := 9) (oi := { dst := some 18, op := Op.move (Operand.tmp 17), type := 4, pos := "law.go:46", after := #[{ on := 8, ground := Ground.data }, { on := 6, ground := Ground.chain }], guard := none }) (v := ?_) rfl (by kernel_rfl) (by kernel_rfl) (by kernel_rfl) (fun _ _ _ h => h) (Or.inl ⟨by rfl, ?_⟩) (by assumption) ?_
  rotate_left
  · (intro w hSw; (try dsimp only at hSw); go_simp <;> (with_reducible rfl))
  try simp only [Act.put, List.setIfInBounds_toArray, List.set_cons_zero, List.set_cons_succ]
  refine wpAnyH_take (i := 10) (oi := { dst := some 19, op := Op.fieldAddr 38 (Operand.tmp 3) 1, type := 0, pos := "law.go:46", after := #[{ on := 9, ground := Ground.guard }], guard := some (9, false) }) (v := ?_) rfl (by kernel_rfl) (by kernel_rfl) (by kernel_rfl) (fun _ _ _ h => h) (Or.inl ⟨by rfl, ?_⟩) (by assumption) ?_
  rotate_left
  · (intro w hSw; (try dsimp only at hSw); go_simp <;> (with_reducible rfl))
  try simp only [Act.put, List.setIfInBounds_toArray, List.set_cons_zero, List.set_cons_succ]
  refine wpAnyH_take (i := 11) (oi := { dst := some 20, op := Op.load 5 (Operand.tmp 19), type := 5, pos := "law.go:46", after := #[{ on := 10, ground := Ground.data }, { on := 9, ground := Ground.guard }], guard := some (9, false) }) (v := ?_) rfl (by kernel_rfl) (by kernel_rfl) (by kernel_rfl) (fun _ _ _ h => h) (Or.inl ⟨by rfl, ?_⟩) (by assumption) ?_
  rotate_left
  · (intro w hSw; (try dsimp only at hSw); go_simp <;> (with_reducible rfl))
  try simp only [Act.put, List.setIfInBounds_toArray, List.set_cons_zero, List.set_cons_succ]
  refine wpAnyH_take (i := 12) (oi := { dst := some 21, op := Op.binOp BinOp.neq 5 (Operand.tmp 20) (Operand.const (Value.int IntKind.u8 1)) 5, type := 4, pos := "law.go:46", after := #[{ on := 11, ground := Ground.data }, { on := 9, ground := Ground.guard }], guard := some (9, false) }) (v := ?_) rfl (by kernel_rfl) (by kernel_rfl) (by kernel_rfl) (fun _ _ _ h => h) (Or.inl ⟨by rfl, ?_⟩) (by assumption) ?_
  rotate_left
  · (intro w hSw; (try dsimp only at hSw); go_simp <;> (with_reducible rfl))
  try simp only [Act.put, List.setIfInBounds_toArray, List.set_cons_zero, List.set_cons_succ]
  refine wpAnyH_take (i := 13) (oi := { dst := some 22, op := Op.move (Operand.tmp 21), type := 4, pos := "law.go:46", after := #[{ on := 12, ground := Ground.data }, { on := 9, ground := Ground.chain }, { on := 9, ground := Ground.guard }], guard := some (9, false) }) (v := ?_) rfl (by kernel_rfl) (by kernel_rfl) (by kernel_rfl) (fun _ _ _ h => h) (Or.inl ⟨by rfl, ?_⟩) (by assumption) ?_
  rotate_left
  · (intro w hSw; (try dsimp only at hSw); go_simp <;> (with_reducible rfl))
  try simp only [Act.put, List.setIfInBounds_toArray, List.set_cons_zero, List.set_cons_succ]
  refine wpAnyH_take (i := 14) (oi := { dst := some 23, op := Op.fieldAddr 38 (Operand.tmp 3) 1, type := 0, pos := "law.go:46", after := #[{ on := 13, ground := Ground.guard }], guard := some (13, true) }) (v := ?_) rfl (by kernel_rfl) (by kernel_rfl) (by kernel_rfl) (fun _ _ _ h => h) (Or.inl ⟨by rfl, ?_⟩) (by assumption) ?_
  rotate_left
  · (intro w hSw; (try dsimp only at hSw); go_simp <;> (with_reducible rfl))
  try simp only [Act.put, List.setIfInBounds_toArray, List.set_cons_zero, List.set_cons_succ]
  refine wpAnyH_take (i := 15) (oi := { dst := some 24, op := Op.load 5 (Operand.tmp 23), type := 5, pos := "law.go:46", after := #[{ on := 14, ground := Ground.data }, { on := 13, ground := Ground.guard }], guard := some (13, true) }) (v := ?_) rfl (by kernel_rfl) (by kernel_rfl) (by kernel_rfl) (fun _ _ _ h => h) (Or.inl ⟨by rfl, ?_⟩) (by assumption) ?_
  rotate_left
  · (intro w hSw; (try dsimp only at hSw); go_simp <;> (with_reducible rfl))
  try simp only [Act.put, List.setIfInBounds_toArray, List.set_cons_zero, List.set_cons_succ]
  refine wpAnyH_take (i := 16) (oi := { dst := some 25, op := Op.binOp BinOp.neq 5 (Operand.tmp 24) (Operand.const (Value.int IntKind.u8 2)) 5, type := 4, pos := "law.go:46", after := #[{ on := 15, ground := Ground.data }, { on := 13, ground := Ground.guard }], guard := some (13, true) }) (v := ?_) rfl (by kernel_rfl) (by kernel_rfl) (by kernel_rfl) (fun _ _ _ h => h) (Or.inl ⟨by rfl, ?_⟩) (by assumption) ?_
  rotate_left
  · (intro w hSw; (try dsimp only at hSw); go_simp <;> (with_reducible rfl))
  try simp only [Act.put, List.setIfInBounds_toArray, List.set_cons_zero, List.set_cons_succ]
  refine wpAnyH_take (i := 17) (oi := { dst := some 26, op := Op.pick (Operand.tmp 22) (Operand.tmp 25) (Operand.const (Value.bool false)), type := 4, pos := "law.go:46", after := #[{ on := 13, ground := Ground.data }, { on := 16, ground := Ground.data }, { on := 9, ground := Ground.guard }], guard := some (9, false) }) (v := ?_) rfl (by kernel_rfl) (by kernel_rfl) (by kernel_rfl) (fun _ _ _ h => h) (Or.inl ⟨by rfl, ?_⟩) (by assumption) ?_
  rotate_left
  · (intro w hSw; (try dsimp only at hSw); go_simp <;> (with_reducible rfl))
  try simp only [Act.put, List.setIfInBounds_toArray, List.set_cons_zero, List.set_cons_succ]
  refine wpAnyH_take (i := 18) (oi := { dst := some 27, op := Op.pick (Operand.tmp 18) (Operand.const (Value.bool true)) (Operand.tmp 26), type := 4, pos := "law.go:46", after := #[{ on := 9, ground := Ground.data }, { on := 17, ground := Ground.data }], guard := none }) (v := ?_) rfl (by kernel_rfl) (by kernel_rfl) (by kernel_rfl) (fun _ _ _ h => h) (Or.inl ⟨by rfl, ?_⟩) (by assumption) ?_
  rotate_left
  · (intro w hSw; (try dsimp only at hSw); go_simp <;> (with_reducible rfl))
  try simp only [Act.put, List.setIfInBounds_toArray, List.set_cons_zero, List.set_cons_succ]
  refine wpAnyH_take (i := 19) (oi := { dst := some 28, op := Op.move (Operand.tmp 27), type := 4, pos := "law.go:46", after := #[{ on := 18, ground := Ground.data }, { on := 13, ground := Ground.chain }], guard := none }) (v := ?_) rfl (by kernel_rfl) (by kernel_rfl) (by kernel_rfl) (fun _ _ _ h => h) (Or.inl ⟨by rfl, ?_⟩) (by assumption) ?_
  rotate_left
  · (intro w hSw; (try dsimp only at hSw); go_simp <;> (with_reducible rfl))
  try simp only [Act.put, List.setIfInBounds_toArray, List.set_cons_zero, List.set_cons_succ]
  refine wpAnyH_take (i := 20) (oi := { dst := some 29, op := Op.move (Operand.tmp 0), type := 22, pos := "law.go:46", after := #[{ on := 19, ground := Ground.guard }], guard := some (19, false) }) (v := ?_) rfl (by kernel_rfl) (by kernel_rfl) (by kernel_rfl) (fun _ _ _ h => h) (Or.inl ⟨by rfl, ?_⟩) (by assumption) ?_
  rotate_left
  · (intro w hSw; (try dsimp only at hSw); go_simp <;> (with_reducible rfl))
  try simp only [Act.put, List.setIfInBounds_toArray, List.set_cons_zero, List.set_cons_succ]
  refine wpAnyH_take (i := 22) (oi := { dst := some 31, op := Op.fieldAddr 38 (Operand.tmp 3) 0, type := 0, pos := "law.go:46", after := #[{ on := 19, ground := Ground.guard }], guard := some (19, false) }) (v := ?_) rfl (by kernel_rfl) (by kernel_rfl) (by kernel_rfl) (fun _ _ _ h => h) (Or.inl ⟨by rfl, ?_⟩) (by assumption) ?_
  rotate_left
  · (intro w hSw; (try dsimp only at hSw); go_simp <;> (with_reducible rfl))
  try simp only [Act.put, List.setIfInBounds_toArray, List.set_cons_zero, List.set_cons_succ]
  refine wpAnyH_take (i := 23) (oi := { dst := some 32, op := Op.load 26 (Operand.tmp 31), type := 26, pos := "law.go:46", after := #[{ on := 22, ground := Ground.data }, { on := 19, ground := Ground.guard }], guard := some (19, false) }) (v := ?_) rfl (by kernel_rfl) (by kernel_rfl) (by kernel_rfl) (fun _ _ _ h => h) (Or.inl ⟨by rfl, ?_⟩) (by assumption) ?_
  rotate_left
  · (intro w hSw; (try dsimp only at hSw); go_simp <;> (with_reducible rfl))
  try simp only [Act.put, List.setIfInBounds_toArray, List.set_cons_zero, List.set_cons_succ]
  refine wpAnyH_ready (rs := [21]) (by kernel_rfl) (by simp) ?_
  refine AllReadyH.cons (o := { dst := some 30, op := Op.call { callee := Callee.value (Operand.func 19), args := #[Operand.tmp 29], argTypes := #[22] }, type := 30, pos := "law.go:46", after := #[{ on := 20, ground := Ground.data }, { on := 19, ground := Ground.chain }, { on := 19, ground := Ground.guard }], guard := some (19, false) }) rfl (fun K hK => ?_) AllReadyH.nil
  go_simp
  go_at_call 19; (with_reducible refine (CD _ bv2).mono ?_); rintro r V3 ⟨A5, m5, c5, rfl, hN, bv3, cv3⟩; have hcV3 := HXC.out V3 bv3
  refine hK.out _ _ (by assumption) (fun hH => ?_)
  clear hHeld hK K
  have hHeld := hH
  clear hH
  try simp only [Act.put, List.setIfInBounds_toArray, List.set_cons_zero, List.set_cons_succ]
  refine wpAnyH_ready (rs := [24]) (by kernel_rfl) (by simp) ?_
  refine AllReadyH.cons (o := { dst := some 33, op := Op.call { callee := Callee.value (Operand.func 18), args := #[Operand.tmp 30, Operand.tmp 32], argTypes := #[30, 26] }, type := 4, pos := "law.go:46", after := #[{ on := 21, ground := Ground.data }, { on := 23, ground := Ground.data }, { on := 21, ground := Ground.chain }, { on := 19, ground := Ground.guard }], guard := some (19, false) }) rfl (fun K hK => ?_) AllReadyH.nil
  go_simp
  go_at_call 18; (with_reducible refine (CH _ _ _ _ hN bv3).mono ?_); rintro r V4 ⟨rfl, bv4⟩; have hcV4 := HXC.out V4 bv4
  refine hK.out _ _ (by assumption) (fun hH => ?_)
  clear hHeld hK K
  have hHeld := hH
  clear hH
  try simp only [Act.put, List.setIfInBounds_toArray, List.set_cons_zero, List.set_cons_succ]
  refine wpAnyH_take (i := 25) (oi := { dst := some 34, op := Op.pick (Operand.tmp 28) (Operand.const (Value.bool true)) (Operand.tmp 33), type := 4, pos := "law.go:46", after := #[{ on := 19, ground := Ground.data }, { on := 24, ground := Ground.data }], guard := none }) (v := ?_) rfl (by kernel_rfl) (by kernel_rfl) (by kernel_rfl) (fun _ _ _ h => h) (Or.inl ⟨by rfl, ?_⟩) (by assumption) ?_
  rotate_left
  · (intro w hSw; (try dsimp only at hSw); go_simp <;> (with_reducible rfl))
  try simp only [Act.put, List.setIfInBounds_toArray, List.set_cons_zero, List.set_cons_succ]
  refine wpAnyH_done (by kernel_rfl) ?_ _
  refine NoPanic.normal ?_
  have hg4 : w.heap.size < V4.heap.size := (R0.out.below bv4 R0.out.lt).lt
  have CL := P.liveF V4 A1 l n1 c1 (HL.out.up bv4) hn hk8
  have B4 := Lib.hid bv4
  clear bv bv2 bv3 bv4 hcV hcA hcV2 hcV3 hcV4 hHeld hN cv3 CF1 CD CH
  go_wp2_with fail
  refine CL.mono ?_
  rintro r w3 ⟨A3, n3, c3, rfl, f3, b3⟩
  have F3 := Lib.hid f3
  have B3 := Lib.hid (B4.out.trans (b3.mono B4.out.size))
  have hg3 : w.heap.size < w3.heap.size := Nat.lt_of_lt_of_le hg4 b3.size
  have hn3 : n3 ≤ 15 := by have h1 := (few_all hfl).1; have h2 := live_len l; have h3 := f3.at_.len; omega
  have hkl : ∀ x ∈ liveE l, x.kills.length ≤ 300 := fun x hx => (few_all hfl).2 x (live_in hx)
  clear f3 b3 CL
  have R3 := Lib.hid (R0.out.below B3.out R0.out.lt)
  obtain ⟨x0, x1, x2, x3, x4, x5, x6⟩ := ev_cells R3.out
  have CE := P.delF w3 A3 (liveE l) n3 c3 q.cid F3.out.at_ (by omega) (fun x hx => Nat.le_trans (hkl x hx) (by decide)) (by rw [HQO.out.cid]; exact HQO.out.fits.cid)
  go_wp2_with fail
  refine CE.mono ?_
  rintro r w4 ⟨A5, n5, c5, rfl, d5, far5, b4⟩
  have R4 := Lib.hid (R3.out.below b4 hg3)
  have t6 := R4.out.cell 6
  have g6 := R4.out.frozen 6
  simp at t6
  have HW4 := Lib.hid (HB.out.trans ((B3.out.trans (b4.mono B3.out.size)).mono HB.out.size))
  have F4 := Lib.hid (F3.out.up b4)
  have D4 := Lib.hid d5
  have FAR := Lib.hid far5
  clear x0 x1 x2 x3 x4 x5 x6 CE b4 d5 far5 F3
  go_upto_region 7 with fail
  have R5 : Hid (At (w4.setCell ⟨w.heap.size, 6, none⟩ (.slice A5 n5 c5)) w.heap.size 38 (ebox ⟨q.dev, q.num, q.kind, q.cid, q.fld, q.txt, A5, n5, c5⟩)) := Lib.hid (R4.out.set 6 (.slice A5 n5 c5))
  have E5 := Lib.hid (F4.out.set hg4 6 (.slice A5 n5 c5))
  have HW5 := Lib.hid (bel_set (g := w.heap.size) (i := 6) HW4.out (Nat.le_refl _) (.slice A5 n5 c5))
  have D5 := Lib.hid (dots_set (g := w.heap.size) D4.out (fun h0 ad ea => by have := FAR.out h0 ad ea; omega) 6 (.slice A5 n5 c5))
  generalize w4.setCell ⟨w.heap.size, 6, none⟩ (.slice A5 n5 c5) = w5 at *
  have hnk : newK l e.kind e.cid e.fld = Ev.dotsE ((liveE l).filter (delB q.cid)) := by unfold newK; rw [hkd, kills_del, HQO.out.cid]
  have Q5 : Hid (Ev.EventIs w5 w5.heap.size ⟨q.dev, q.num, q.kind, q.cid, q.fld, q.txt, A5, n5, c5⟩ (withK l e)) := Lib.hid ⟨HQO.out.dev, HQO.out.num, HQO.out.kind, HQO.out.cid, HQO.out.fld, HQO.out.txt, ⟨HQO.out.fits.dot, HQO.out.fits.kind, HQO.out.fits.cid, HQO.out.fits.fld, HQO.out.fits.txt⟩, by show Ev.DotsAt w5 w5.heap.size A5 (newK l e.kind e.cid e.fld) n5 c5; rw [hnk]; exact D5.out⟩
  have hlen5 : (newK l e.kind e.cid e.fld).length ≤ 65536 := by
    rw [hnk, D5.out.len]
    have h1 := dots_len (l := (liveE l).filter (delB q.cid)) (fun x hx => Nat.le_trans (hkl x (List.mem_filter.1 hx).1) (by decide))
    have h2 := List.length_filter_le (delB q.cid) (liveE l)
    have h3 := live_len l
    have h4 := (few_all hfl).1
    rw [D5.out.len] at h1
    omega
  have L5 := Lib.hid (HLO.out.up HW5.out)
  obtain ⟨psl, lsl, msl⟩ := L5.out.evts
  have hpl : psl.length = n1 := by rw [msl.1]; exact L5.out.len
  have hlv : liveE (l ++ [withK l e]) = wantE l e.kind e.cid e.fld (withK l e) := new_live l (withK l e) (.inr hkd) (of_decide_eq_false hh0) rfl
  have hn15 : n1 ≤ 15 := by have h1 := (few_all hfl).1; have h2 := HLO.out.len; omega
  have HN1 : Hid (n1 ≤ 1649267441664) := Lib.hid (by omega)
  have HN2 : Hid (n1 + 1 ≤ 1649267441664) := Lib.hid (by omega)
  have HPL := Lib.hid hpl
  have HNL := Lib.hid L5.out.nil
  have HLI := Lib.hid (fun W (hW : Below w5.heap.size w5 W) => ((lsl.below hW).more hW.size : Dt.Lies W W.heap.size A1 (Ev.ev psl)))
  have HEV := Lib.hid (fun (W : World) (A : Option Addr) (c : Nat) (hW : Below w5.heap.size w5 W) (ho : W.ownsRow w5.heap.size 38 7 (.slice A (n1 + 1) c) (n1 + 1) (Ev.ev (([] ++ psl) ++ [⟨q.dev, q.num, q.kind, q.cid, q.fld, q.txt, A5, n5, c5⟩]))) => (Ev.own_events (w := w5) (w1 := w5) (wr := W) (ps := psl ++ [⟨q.dev, q.num, q.kind, q.cid, q.fld, q.txt, A5, n5, c5⟩]) hW (msl.snoc Q5.out) (by rw [List.length_append, hpl]; rfl) (by omega) ho : Ev.EventsAt W W.heap.size A (l ++ [withK l e]) (n1 + 1) c))
  have A17 := fun W (hW : Below w5.heap.size w5 W) A c (h : Ev.EventsAt W W.heap.size A (l ++ [withK l e]) (n1 + 1) c) => later_evts hW (P.live W A (l ++ [withK l e]) (n1 + 1) c h (by omega) (fun x hx => (List.mem_append.1 hx).elim (hk8 x) (fun hx => by rw [List.mem_singleton.1 hx]; exact hlen5)))
  simp only [hlv] at A17
  have HX5 : Hid (∀ V, Below w5.heap.size w5 V → V.cell? ⟨w.heap.size, 0, none⟩ = some (.int .u16 (q.dev : Int)) ∧ V.cell? ⟨w.heap.size, 1, none⟩ = some (.int .u64 (q.num : Int)) ∧ V.cell? ⟨w.heap.size, 2, none⟩ = some (.int .u8 (q.kind : Int)) ∧ V.cell? ⟨w.heap.size, 3, none⟩ = some (.int .u64 (q.cid : Int)) ∧ V.cell? ⟨w.heap.size, 4, none⟩ = some (.int .u8 (q.fld : Int)) ∧ V.cell? ⟨w.heap.size, 5, none⟩ = some (.string q.txt) ∧ V.cell? ⟨w.heap.size, 6, none⟩ = some (.slice A5 n5 c5)) := Lib.hid (fun V hV => ev_cells (q := ⟨q.dev, q.num, q.kind, q.cid, q.fld, q.txt, A5, n5, c5⟩) (R5.out.below hV R5.out.lt))
  obtain ⟨x0, x1, x2, x3, x4, x5, x6⟩ := HX5.out _ (Below.refl _ _)
  clear hnk hlen5 lsl msl hpl hlv hk8 hn hk hkl g6 t6 hg3 hg4 R0 B4 B3 R3 R4 F4 D4 FAR HXC HL HB hh0
  have OWI : Hid (((w5.alloc (.cells #[] 38)).drew).ownsRow w5.heap.size 38 7 (.slice (some ⟨w5.heap.size, 0, none⟩) 0 0) 0 (Ev.ev [])) := Lib.hid (Dt.own_kept (own_litE (Below.refl _ _)) (Ev.bel_drew (Below.refl _ _)))
  have OWII : Hid ((((w5.alloc (.cells #[] 38)).alloc (.cells #[.int .u16 (q.dev : Int), .int .u64 (q.num : Int), .int .u8 (q.kind : Int), .int .u64 (q.cid : Int), .int .u8 (q.fld : Int), .string q.txt, .slice A5 n5 c5] 38)).drew).ownsRow w5.heap.size 38 7 (.slice (some ⟨w5.heap.size, 0, none⟩) 0 0) 0 (Ev.ev [])) := Lib.hid (Dt.own_kept (own_litE (Below.refl _ _)) (Ev.bel_drew (Ev.below_new _ _)))
  have OWIII : Hid ((((w5.alloc (.cells #[.int .u16 (q.dev : Int), .int .u64 (q.num : Int), .int .u8 (q.kind : Int), .int .u64 (q.cid : Int), .int .u8 (q.fld : Int), .string q.txt, .slice A5 n5 c5] 38)).alloc (.cells #[] 38)).drew).ownsRow w5.heap.size 38 7 (.slice (some ⟨w5.heap.size + 1, 0, none⟩) 0 0) 0 (Ev.ev [])) := Lib.hid (by
    have h := own_litE (W := w5) (V := w5.alloc (.cells #[.int .u16 (q.dev : Int), .int .u64 (q.num : Int), .int .u8 (q.kind : Int), .int .u64 (q.cid : Int), .int .u8 (q.fld : Int), .string q.txt, .slice A5 n5 c5] 38)) (Ev.below_new _ _)
    rw [Ev.alloc_size] at h
    exact Dt.own_kept h (Ev.bel_drew (Below.refl _ _)))
  have LSII : Hid (Dt.Lies (((w5.alloc (.cells #[] 38)).alloc (.cells #[.int .u16 (q.dev : Int), .int .u64 (q.num : Int), .int .u8 (q.kind : Int), .int .u64 (q.cid : Int), .int .u8 (q.fld : Int), .string q.txt, .slice A5 n5 c5] 38)).drew) (((w5.alloc (.cells #[] 38)).alloc (.cells #[.int .u16 (q.dev : Int), .int .u64 (q.num : Int), .int .u8 (q.kind : Int), .int .u64 (q.cid : Int), .int .u8 (q.fld : Int), .string q.txt, .slice A5 n5 c5] 38)).drew).heap.size (some ⟨w5.heap.size + 1, 0, none⟩) (Ev.ev [⟨q.dev, q.num, q.kind, q.cid, q.fld, q.txt, A5, n5, c5⟩])) := Lib.hid (by
    have h := Ev.lies_evt (w5.alloc (.cells #[] 38)) ⟨q.dev, q.num, q.kind, q.cid, q.fld, q.txt, A5, n5, c5⟩
    rw [Ev.alloc_size w5 (.cells #[] 38)] at h
    exact lies_drew h)
  have LSIII : Hid (Dt.Lies (((w5.alloc (.cells #[.int .u16 (q.dev : Int), .int .u64 (q.num : Int), .int .u8 (q.kind : Int), .int .u64 (q.cid : Int), .int .u8 (q.fld : Int), .string q.txt, .slice A5 n5 c5] 38)).alloc (.cells #[] 38)).drew) (((w5.alloc (.cells #[.int .u16 (q.dev : Int), .int .u64 (q.num : Int), .int .u8 (q.kind : Int), .int .u64 (q.cid : Int), .int .u8 (q.fld : Int), .string q.txt, .slice A5 n5 c5] 38)).alloc (.cells #[] 38)).drew).heap.size (some ⟨w5.heap.size, 0, none⟩) (Ev.ev [⟨q.dev, q.num, q.kind, q.cid, q.fld, q.txt, A5, n5, c5⟩])) := Lib.hid (by
    have h := Ev.lies_evt w5 ⟨q.dev, q.num, q.kind, q.cid, q.fld, q.txt, A5, n5, c5⟩
    exact lies_drew ((h.below (Ev.below_new (w5.alloc (.cells #[.int .u16 (q.dev : Int), .int .u64 (q.num : Int), .int .u8 (q.kind : Int), .int .u64 (q.cid : Int), .int .u8 (q.fld : Int), .string q.txt, .slice A5 n5 c5] 38)) (.cells #[] 38))).more (Ev.below_new (w5.alloc (.cells #[.int .u16 (q.dev : Int), .int .u64 (q.num : Int), .int .u8 (q.kind : Int), .int .u64 (q.cid : Int), .int .u8 (q.fld : Int), .string q.txt, .slice A5 n5 c5] 38)) (.cells #[] 38)).size))
  go_region_held3 (fun V => V.cell? ⟨w.heap.size, 0, none⟩ = some (.int .u16 (q.dev : Int)) ∧ V.cell? ⟨w.heap.size, 1, none⟩ = some (.int .u64 (q.num : Int)) ∧ V.cell? ⟨w.heap.size, 2, none⟩ = some (.int .u8 (q.kind : Int)) ∧ V.cell? ⟨w.heap.size, 3, none⟩ = some (.int .u64 (q.cid : Int)) ∧ V.cell? ⟨w.heap.size, 4, none⟩ = some (.int .u8 (q.fld : Int)) ∧ V.cell? ⟨w.heap.size, 5, none⟩ = some (.string q.txt) ∧ V.cell? ⟨w.heap.size, 6, none⟩ = some (.slice A5 n5 c5)) (first | exact ⟨x0, x1, x2, x3, x4, x5, x6⟩ | assumption | exact HX5.out _ (by repeat (first | exact Below.refl _ _ | assumption | apply Ev.bel_drew | apply Ev.bel_alloc))) (first
    | (refine step_evts (by first | rfl | decide) (.tmp 53) (.tmp 54) rfl rfl _ w5 0 n1 (.slice (some ⟨w5.heap.size, 0, none⟩) 0 0) [] A1 psl n1 c1 rfl rfl ?_ OWI.out HNL.out (HLI.out _ ?_) HPL.out (Nat.zero_add _) HN1.out ?_; (focus (repeat (first | exact Below.refl _ _ | assumption | apply Ev.bel_drew | apply Ev.bel_alloc))); (focus (repeat (first | exact Below.refl _ _ | assumption | apply Ev.bel_drew | apply Ev.bel_alloc))); intro A7 c7 w7 ho7 hg7 hb7; have hcV := HX5.out w7 hb7)
    | (refine step_evts (by first | rfl | decide) (.tmp 53) (.tmp 54) rfl rfl _ w5 0 n1 (.slice (some ⟨w5.heap.size, 0, none⟩) 0 0) [] A1 psl n1 c1 rfl rfl ?_ OWII.out HNL.out (HLI.out _ ?_) HPL.out (Nat.zero_add _) HN1.out ?_; (focus (repeat (first | exact Below.refl _ _ | assumption | apply Ev.bel_drew | apply Ev.bel_alloc))); (focus (repeat (first | exact Below.refl _ _ | assumption | apply Ev.bel_drew | apply Ev.bel_alloc))); intro A7 c7 w7 ho7 hg7 hb7; have hcV := HX5.out w7 hb7; have hsrc := lies_row LSII.out hg7 (fun ad ea eb => by cases ea; exact absurd (show w5.heap.size + 1 = w5.heap.size from Option.some.inj eb) (by omega)))
    | (refine step_evts (by first | rfl | decide) (.tmp 53) (.tmp 54) rfl rfl _ w5 0 n1 (.slice (some ⟨w5.heap.size + 1, 0, none⟩) 0 0) [] A1 psl n1 c1 rfl rfl ?_ OWIII.out HNL.out (HLI.out _ ?_) HPL.out (Nat.zero_add _) HN1.out ?_; (focus (repeat (first | exact Below.refl _ _ | assumption | apply Ev.bel_drew | apply Ev.bel_alloc))); (focus (repeat (first | exact Below.refl _ _ | assumption | apply Ev.bel_drew | apply Ev.bel_alloc))); intro A7 c7 w7 ho7 hg7 hb7; have hcV := HX5.out w7 hb7; have hsrc := lies_row LSIII.out hg7 (fun ad ea eb => by cases ea; exact absurd (show w5.heap.size = w5.heap.size + 1 from Option.some.inj eb) (by omega)))
    | (refine step_evts (by first | rfl | decide) (.tmp 55) (.tmp 57) rfl rfl _ w5 n1 (n1 + 1) (.slice A7 n1 c7) ([] ++ psl) (some ⟨w7.heap.size, 0, none⟩) [⟨q.dev, q.num, q.kind, q.cid, q.fld, q.txt, A5, n5, c5⟩] 1 1 rfl rfl (Ev.bel_alloc _ hb7) (ho7.alloc _) (fun h => by cases h) (Ev.lies_evt w7 ⟨q.dev, q.num, q.kind, q.cid, q.fld, q.txt, A5, n5, c5⟩) rfl rfl HN2.out ?_; intro A9 c9 w9 ho9 hg9 hb9; have hcV := HX5.out w9 hb9; have hev := HEV.out w9 A9 c9 hb9 ho9)
    | (refine step_evts (by first | rfl | decide) (.tmp 55) (.tmp 57) rfl rfl _ w5 n1 (n1 + 1) (.slice A7 n1 c7) ([] ++ psl) _ [⟨q.dev, q.num, q.kind, q.cid, q.fld, q.txt, A5, n5, c5⟩] 1 1 rfl rfl hb7 ho7 (fun h => by cases h) hsrc rfl rfl HN2.out ?_; intro A9 c9 w9 ho9 hg9 hb9; have hcV := HX5.out w9 hb9; have hev := HEV.out w9 A9 c9 hb9 ho9)
    | (go_at_call 16; (with_reducible refine (A17 _ ?_ _ _ ?_).mono ?_); (focus (repeat (first | exact Below.refl _ _ | assumption | apply Ev.bel_drew | apply Ev.bel_alloc))); (focus exact hev); rintro r V ⟨A6, n6, c6, rfl, hM, bv, cv⟩; have hcV := HX5.out V bv))
  all_goals
    have HV := Lib.hid (HW5.out.trans (bv.mono HW5.out.size))
    have MV := Lib.hid hM
    have EV5 := Lib.hid (E5.out.up bv)
    have HXV : Hid (∀ U, Below V.heap.size V U → U.cell? ⟨w.heap.size, 0, none⟩ = some (.int .u16 (q.dev : Int)) ∧ U.cell? ⟨w.heap.size, 1, none⟩ = some (.int .u64 (q.num : Int)) ∧ U.cell? ⟨w.heap.size, 2, none⟩ = some (.int .u8 (q.kind : Int)) ∧ U.cell? ⟨w.heap.size, 3, none⟩ = some (.int .u64 (q.cid : Int)) ∧ U.cell? ⟨w.heap.size, 4, none⟩ = some (.int .u8 (q.fld : Int)) ∧ U.cell? ⟨w.heap.size, 5, none⟩ = some (.string q.txt) ∧ U.cell? ⟨w.heap.size, 6, none⟩ = some (.slice A5 n5 c5)) := Lib.hid (fun U hU => HX5.out U (bv.trans (hU.mono bv.size)))
    have QV := Lib.hid (Q5.out.up bv)
    clear x0 x1 x2 x3 x4 x5 x6 bv hM cv hcV
    go_wp2_with fail
    go_loopw [7, 8] (fun v i wr => ∃ (k m : Nat) (A : Option Addr) (c : Nat), k ≤ n3 ∧ i = .int .i64 (k : Int) ∧ v = .slice A m c ∧ Ev.EventsAt wr wr.heap.size A (stayTo l e k) m c ∧ Below V.heap.size V wr) (fun _ i _ => n3 - (intOf i).toNat)
    case atStart => exact ⟨0, 0, none, 0, Nat.zero_le _, rfl, rfl, Ev.EventsAt.none_ _ _, Below.refl _ _⟩
    case round =>
      obtain ⟨k, m, A, c, hk, rfl, rfl, ho, hw⟩ := hrel
      have HO := Lib.hid ho
      have HW := Lib.hid hw
      have hmk := stay_len l e k
      rw [ho.len] at hmk
      clear ho hw
      by_cases hlt : k < n3
      · obtain ⟨ad, p, y, rfl, hB, hly, hp, cp⟩ := EV5.out.at_ hlt
        have HPY := Lib.hid hp
        have HCP := Lib.hid cp
        have HSK := Lib.hid (fun h => stay_skip (e := e) hly h)
        have HST := Lib.hid (fun h => stay_take (e := e) hly h)
        have HF : Hid (stayB e.kind e.cid e.fld y = ((p.cid : Int) != (q.cid : Int))) := Lib.hid (by unfold stayB; rw [hkd, bne, eq_u8, HPY.out.cid, HQO.out.cid]; simp)
        obtain ⟨e0, e1, e2, e3, e4, e5, e6⟩ := cp.kept HW.out
        obtain ⟨x0, x1, x2, x3, x4, x5, x6⟩ := HXV.out _ HW.out
        clear hly hp cp
        cases h1 : ((p.cid : Int) != (q.cid : Int)) with
        | true =>
          have HN := Lib.hid (HST.out (by rw [HF.out, h1]))
          have CP := fun j => Ev.rput_any (wr.drewN j) A _ m c p y (HO.out.up (Ev.below_drewN _ _ _)) (HPY.out.up (Ev.bel_drewN HW.out j)) (by omega)
          simp only [Ev.EV.val] at CP
          go_wp2_with fail
          go_quiet (fail)
          go_wp2_with fail
          refine (CP _).mono ?_
          rintro r U ⟨A8, m8, c8, rfl, ho8, hb8⟩
          rw [← HN.out] at ho8
          have HO8 := Lib.hid ho8
          have HW8 := Lib.hid ((Ev.bel_drewN HW.out _).trans (hb8.mono (Ev.bel_drewN HW.out _).size))
          clear CP ho8 hb8 e0 e1 e2 e3 e4 e5 e6 x0 x1 x2 x3 x4 x5 x6
          go_wp2
          go_roundw
          case rel => exact ⟨k + 1, m8, A8, c8, by omega, by go_num, rfl, HO8.out, HW8.out⟩
          case measure => simp [intOf]; omega
        | false =>
          have HN := Lib.hid (HSK.out (by rw [HF.out, h1]))
          go_wp2_with fail
          go_quiet (fail)
          go_wp2
          go_roundw
          case rel => exact ⟨k + 1, m, A, c, by omega, by go_num, rfl, by rw [HN.out]; exact HO.out.up (Ev.below_drewN _ _ _), Ev.bel_drewN HW.out _⟩
          case measure => simp [intOf]; omega
      · obtain rfl : k = n3 := by omega
        have hall := stay_all l e EV5.out.len
        rw [hall] at HO
        obtain ⟨x0, x1, x2, x3, x4, x5, x6⟩ := HXV.out _ HW.out
        have MW := Lib.hid (MV.out.up HW.out)
        have HWW := Lib.hid (HV.out.trans (HW.out.mono HV.out.size))
        have HWT : Hid (wantE l e.kind e.cid e.fld (withK l e) = ((liveE l).filter (stayB e.kind e.cid e.fld)).foldl Ev.putE []) := Lib.hid (by unfold wantE; rw [hkd]; simp)
        rw [← HWT.out] at HO
        have CA := same_evts (w := wr) (Below.refl _ _) MW.out HO.out
        have HU := HWW
        go_wp2_with fail
        refine CA.mono ?_
        rintro r U2 ⟨rfl, hb2⟩
        have HU2 := Lib.hid (HU.out.trans (hb2.mono HU.out.size))
        clear CA hb2
        go_wp2_with fail
        refine (works_any P _).mono ?_
        rintro r U3 ⟨rfl, hb3⟩
        have HU3 := Lib.hid (HU2.out.trans (hb3.mono HU2.out.size))
        clear hb3
        go_wp2
        go_ret
        exact ⟨rfl, HU3.out⟩
theorem new_walk (P : PKl) (w : World) (A1 : Option Addr) (l : List Ev.Evt) (q : Ev.EV) (e : Ev.Evt) (n1 c1 : Nat) (hl : Ev.EventsAt w w.heap.size A1 l n1 c1) (hq : Ev.EventIs w w.heap.size q e) :
    Calls Try.prog 4 #[.slice A1 n1 c1, q.val] w fun e w' => e = .returned (.bool true) ∧ Below w.heap.size w w' := by
  cases hfl : Ev.fewB l 15 with
  | false => exact new_a P w A1 l q e n1 c1 hl hq hfl
  | true =>
    cases hfe : Ev.fewB [e] 1 with
    | false => exact new_b P w A1 l q e n1 c1 hl hq hfl hfe
    | true =>
      by_cases h1 : e.kind = 1
      · cases hh : decide (e.dot ∈ Ev.dotsE l) with
        | true => exact new_d1 P w A1 l q e n1 c1 hl hq hfl hfe h1 hh
        | false => exact new_e1 P w A1 l q e n1 c1 hl hq hfl hfe h1 hh
      · by_cases h2 : e.kind = 2
        · cases hh : decide (e.dot ∈ Ev.dotsE l) with
          | true => exact new_d2 P w A1 l q e n1 c1 hl hq hfl hfe h2 hh
          | false => exact new_e2 P w A1 l q e n1 c1 hl hq hfl hfe h2 hh
        · exact new_c P w A1 l q e n1 c1 hl hq hfl hfe ⟨h1, h2⟩
end Go.Proofs.Ytmebokpgiehgmaa.Kl
