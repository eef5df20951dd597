/- Layers dot and vec, the program's side: maps of devices, Good, told, inOrder, Norm; slices.Compact. -/
import Derived.Test.YtegclhgfibfanaaKV
import Derived.Maps.RangeWalk
import Derived.Maps.OwnOps
import Derived.Maps.OwnSet
import Derived.Maps.Ext
import Derived.WalkSmall
import Derived.Lib.SlicesCompact
import Derived.Lib.SliceRun

/- Maps that tell of devices: what a map of devices and numbers holds, as arithmetic and in memory. -/
namespace Go.Proofs.Ytegclhgfibfanaa.Dt
open Go.ChangeShapes Go.WideShapes Go.ChangeAt Go.RowKit Go.Maps
set_option linter.unusedVariables false
set_option maxRecDepth 4000

theorem law16 : Keyed Try.prog 24 := int_keyed Try.underlying24
theorem zero64 (w : World) : (zeroValue 25).run Try.prog w = .ok (.int .u64 0) w := by kernel_rfl
theorem wf16 {d : Nat} (h : d < 65536) : (Lit.int .u16 (d : Int)).wf = true := by
  simp [Lit.wf, IntKind.min, IntKind.max, IntKind.bits, IntKind.signed]; omega
theorem wf64 {n : Nat} (h : n < 18446744073709551616) : (Lit.int .u64 (n : Int)).wf = true := by
  simp [Lit.wf, IntKind.min, IntKind.max, IntKind.bits, IntKind.signed]; omega
theorem un16 {x : Int} (h : (Lit.int .u16 x).wf = true) : ∃ d : Nat, x = (d : Int) ∧ d < 65536 := by
  simp [Lit.wf, IntKind.min, IntKind.max, IntKind.bits, IntKind.signed] at h
  exact ⟨x.toNat, by omega, by omega⟩
abbrev keyL (d : Nat) : Lit := .int .u16 (d : Int)
abbrev numL (n : Nat) : DataW Unit := .lit (.int .u64 (n : Int))
theorem key_is {d : Nat} (h : d < 65536) : keyOf Try.prog 24 (.int .u16 (d : Int)) = some (keyL d) := keyOf_int_mk Try.underlying24 (wf16 h)
theorem key_lit (d : Nat) : WideAt.IsKeyLit (keyL d) := trivial
theorem key_ne {d e : Nat} (h : e ≠ d) : keyL e ≠ keyL d := fun h2 => by
  injection h2 with _ h3
  exact h (by omega)
theorem same_key (d e : Nat) : (keyL e).sameKey (keyL d) = decide (e = d) := by
  by_cases h : e = d
  · subst h; simp [Lit.sameKey]
  · rw [Maps.sameKey_ne (key_ne h), decide_eq_false h]
/-- the map holds, at each device, what f says; no key but those of which f says something. -/
structure Holds (D : DataW Unit) (f : Nat → Nat) : Prop where
  at_ : ∀ d, d < 65536 → D.atKey (keyL d) (numL 0) = numL (f d)
  key : ∀ kl, Maps.has D kl = true → ∃ d, d < 65536 ∧ kl = keyL d ∧ 0 < f d
  some_ : ∀ d, 0 < f d → d < 65536 ∧ Maps.has D (keyL d) = true
theorem holds_none : Holds (.map []) (fun _ => 0) := ⟨fun d _ => rfl, (fun kl h => by cases h), (fun d h => absurd h (by omega))⟩
theorem Holds.put {D : DataW Unit} {f : Nat → Nat} (h : Holds D f) (hD : Maps.IsMap D) {d n : Nat} (hd : d < 65536) (hn : 0 < n) : Holds (D.put (keyL d) (numL n)) (fun e => if e = d then n else f e) := by
  refine ⟨fun e he => ?_, fun kl hk => ?_, fun e he => ?_⟩
  · by_cases hed : e = d
    · subst hed
      rw [Maps.atKey_put_same hD (key_lit _), if_pos rfl]
    · rw [Maps.atKey_put_other (key_ne hed), h.at_ e he, if_neg hed]
  · by_cases hed : kl = keyL d
    · exact ⟨d, hd, hed, by rw [if_pos rfl]; exact hn⟩
    · rw [Maps.has_put_other hed] at hk
      obtain ⟨e, he, rfl, hf⟩ := h.key kl hk
      have : e ≠ d := fun h2 => hed (by rw [h2])
      exact ⟨e, he, rfl, by rw [if_neg this]; exact hf⟩
  · by_cases hed : e = d
    · subst hed
      exact ⟨hd, Maps.has_put_same hD (key_lit _) _⟩
    · rw [if_neg hed] at he
      rw [Maps.has_put_other (key_ne hed)]
      exact h.some_ e he

/-- block b is a map that holds what f says, of at most n entries. -/
def MapAt (w : World) (b n : Nat) (f : Nat → Nat) : Prop := ∃ D : DataW Unit, w.ownsMap Try.prog 24 (plainElem Try.prog 25) b n D ∧ Holds D f
theorem MapAt.lt {w : World} {b n : Nat} {f : Nat → Nat} (h : MapAt w b n f) : b < w.heap.size := by
  obtain ⟨D, h1, _⟩ := h
  exact h1.lt
theorem MapAt.below {w w' : World} {B b n : Nat} {f : Nat → Nat} (h : MapAt w b n f) (hb : Below B w w') (hB : b < B) : MapAt w' b n f := by
  obtain ⟨D, ⟨es, clock, h1, h2⟩, h3⟩ := h
  exact ⟨D, ⟨es, clock, (hb.block b hB).trans h1, h2⟩, h3⟩
theorem MapAt.more {w : World} {b n n' : Nat} {f : Nat → Nat} (h : MapAt w b n f) (hn : n ≤ n') : MapAt w b n' f := by
  obtain ⟨D, h1, h2⟩ := h
  exact ⟨D, h1.mono hn, h2⟩
theorem MapAt.turn {w : World} {b n : Nat} {f g : Nat → Nat} (h : MapAt w b n f) (e : f = g) : MapAt w b n g := e ▸ h
/-- a map of devices has at most 65536 entries. -/
theorem few_nat (l : List Nat) (n : Nat) (hn : l.Nodup) (h : ∀ x ∈ l, x < n) : l.length ≤ n := by
  induction n generalizing l with
  | zero =>
    cases l with
    | nil => exact Nat.le_refl _
    | cons x l => exact absurd (h x (List.mem_cons_self ..)) (by omega)
  | succ n ih =>
    by_cases hm : n ∈ l
    · have h1 := ih (l.erase n) (hn.erase n) (fun x hx => by
        have h2 := h x (List.mem_of_mem_erase hx)
        have h3 : x ≠ n := fun e => by rw [e] at hx; exact (hn.not_mem_erase) hx
        omega)
      rw [List.length_erase_of_mem hm] at h1
      omega
    · have h1 := ih l hn (fun x hx => by
        have h2 := h x hx
        have h3 : x ≠ n := fun e => hm (e ▸ hx)
        omega)
      omega
def devL : Lit → Nat
  | .int _ x => x.toNat
  | _ => 0
theorem Holds.size {D : DataW Unit} {f : Nat → Nat} (h : Holds D f) {es : List (Lit × DataW Unit)} (hD : D = .map es) (hp : es.Pairwise (fun p q => p.1 ≠ q.1)) (hk : ∀ p ∈ es, WideAt.IsKeyLit p.1) : es.length ≤ 65536 := by
  have hd : ∀ p ∈ es, ∃ d, d < 65536 ∧ p.1 = keyL d := fun p hp1 => by
    obtain ⟨d, h1, h2, _⟩ := h.key p.1 (by
      rw [hD]
      exact List.any_eq_true.2 ⟨p, hp1, WideAt.sameKey_self (hk p hp1)⟩)
    exact ⟨d, h1, h2⟩
  have h1 := few_nat (es.map (fun p => devL p.1)) 65536 (by
    refine List.pairwise_map.2 (hp.imp_of_mem fun {p q} hp1 hq1 hne e => ?_)
    obtain ⟨d, _, e1⟩ := hd p hp1
    obtain ⟨d2, _, e2⟩ := hd q hq1
    rw [e1, e2] at e
    have : d = d2 := by simpa [devL] using e
    exact hne (by rw [e1, e2, this])) (fun x hx => by
    obtain ⟨p, hp1, rfl⟩ := List.mem_map.1 hx
    obtain ⟨d, h1, e1⟩ := hd p hp1
    rw [e1]
    simpa [devL] using h1)
  simpa using h1
theorem MapAt.tight {w : World} {b n : Nat} {f : Nat → Nat} (h : MapAt w b n f) : MapAt w b 65536 f := by
  obtain ⟨D, h1, h2⟩ := h
  obtain ⟨es, hD, hp, hk⟩ := h1.entries law16
  have hs := h2.size hD hp hk
  obtain ⟨es', clock, hb, F, _, hD'⟩ := h1
  have h3 : es.length = es'.size := by
    rw [hD'] at hD
    injection hD with hD
    rw [← hD]
    exact length_read es'
  exact ⟨D, ⟨es', clock, hb, F, by omega, hD'⟩, h2⟩
/-- 'len' of a map of one's own. -/
theorem wpList_size {ops : Array Oper} {rest : List Oper} {o : Oper} {a : Act} {w : World} {Q : Exit → Act → World → Prop} (hg : o.guard = none) (m : Operand) (hop : o.op = .call { callee := .builtin .len, args := #[m], argTypes := #[74] })
    (b n : Nat) (f : Nat → Nat) (hm : a.eval m = .map (some b)) (h : MapAt w b n f)
    (hK : ∀ k : Nat, k ≤ 65536 → wpList Try.prog ops Q rest (a.put o.dst (.int .i64 (k : Int))) w) : wpList Try.prog ops Q (o :: rest) a w := by
  refine wpList_plain hg fun K' hK' => ?_
  obtain ⟨D, h1, h2⟩ := h.tight
  have h3 := h1.size_le
  have h4 := h1.len (t := 74) (e := 25) Try.underlying74 o.type
  unfold Oper.wp execOp
  simp only [hop, resolve, invoke, builtin, Sem.run_bind, Sem.run_pure, Result.andThen_ok, List.map_toArray, List.map_cons, List.map_nil, hm]
  rw [h4]
  exact hK' _ _ (hK _ h3)
/-- a look-up in a map of one's own, also behind a guard that said yes. -/
theorem wpList_look {ops : Array Oper} {rest : List Oper} {o : Oper} {a : Act} {w : World} {Q : Exit → Act → World → Prop} (hg : Region.wanted o (yielded ops a.tmps) = true) (m x : Operand) (hop : o.op = Op.lookup 74 m x false)
    (b n d : Nat) (f : Nat → Nat) (hm : a.eval m = .map (some b)) (h : MapAt w b n f) (hd : d < 65536) (hx : a.eval x = .int .u16 (d : Int))
    (hK : wpList Try.prog ops Q rest (a.put o.dst (.int .u64 ((f d : Nat) : Int))) w) : wpList Try.prog ops Q (o :: rest) a w := by
  refine wpList_step fun K' hK' => ?_
  obtain ⟨D, h1, h2⟩ := h
  obtain ⟨c, hrun, hat, hwc⟩ := h1.lookup_int law16 Try.underlying74 Try.underlying25 (zero64 _) (key_is hd)
  have h3 : D.atKey (keyL d) (.lit (.int .u64 0)) = numL (f d) := h2.at_ d hd
  rw [h3] at hat
  injection hat with hat
  injection hat with _ hat
  subst hat
  rw [if_pos hg]
  unfold Oper.wp
  simp [execOp, hop, hm, hx, hrun, Result.andThen]
  exact hK' _ _ hK
/-- a store into a map of one's own. -/
theorem wpList_put {ops : Array Oper} {rest : List Oper} {o : Oper} {a : Act} {w : World} {Q : Exit → Act → World → Prop} (hg : o.guard = none) (m x v : Operand) (hop : o.op = Op.mapUpdate 74 m x v)
    (b n d k : Nat) (f : Nat → Nat) (hm : a.eval m = .map (some b)) (h : MapAt w b n f) (hn : n ≤ 4611686018427387904) (hd : d < 65536) (hx : a.eval x = .int .u16 (d : Int)) (hv : a.eval v = .int .u64 (k : Int)) (hk : 0 < k) (hk2 : k < 18446744073709551616)
    (hK : ∀ w', MapAt w' b (n + 1) (fun e => if e = d then k else f e) → w.grownBy w' (some b) → wpList Try.prog ops Q rest (a.put o.dst undef) w') : wpList Try.prog ops Q (o :: rest) a w := by
  obtain ⟨D, h1, h2⟩ := h
  exact wpList_mapUpdate_own w hg m x v 74 hop 24 25 law16 Try.underlying74 _ b n D hm h1 (by unfold maxLen; omega) _ _ _ hx hv (key_is hd) _ [] (plainElem_int Try.underlying25 (wf64 hk2)) fun w' h3 h4 => hK w' ⟨_, h3, h2.put h1.isMap hd hk⟩ h4
end Go.Proofs.Ytegclhgfibfanaa.Dt

/- A range over a map of devices: what has been gathered, whichever order its entries come in. Plain arithmetic. -/
namespace Go.Proofs.Ytegclhgfibfanaa.Dt
open Go.ChangeShapes Go.WideShapes Go.ChangeAt Go.RowKit Go.Maps
set_option linter.unusedVariables false
set_option maxRecDepth 4000

/-- the dots gathered are those of the map that are no longer to come, each once. -/
structure Gather (f : Nat → Nat) (left : Lit → Bool) (m : List Dot) : Prop where
  of_ : ∀ x ∈ m, x.1 < 65536 ∧ 0 < f x.1 ∧ x.2 = f x.1 ∧ left (keyL x.1) = false
  all_ : ∀ d, 0 < f d → left (keyL d) = false → (d, f d) ∈ m
  once : m.Pairwise (fun a b => a.1 ≠ b.1)
theorem gather_start {D : DataW Unit} {f : Nat → Nat} (h : Holds D f) : Gather f (Maps.has D) [] :=
  ⟨fun x hx => (by cases hx), fun d hd hl => (by have := (h.some_ d hd).2; rw [hl] at this; cases this), List.Pairwise.nil⟩
/-- the entry that comes: its device, and what the map says of it. -/
theorem entry_is {D : DataW Unit} {f : Nat → Nat} (h : Holds D f) {x c : Int} (hx : (Lit.int .u16 x).wf = true) (hat : ∀ zd, D.atKey (.int .u16 x) zd = .lit (.int .u64 c)) : ∃ d : Nat, x = (d : Int) ∧ d < 65536 ∧ 0 < f d ∧ c = ((f d : Nat) : Int) := by
  obtain ⟨d, rfl, hd⟩ := un16 hx
  obtain ⟨e, he, hk, hf⟩ := h.key _ (Maps.has_true_of_atKey hat)
  have hde : d = e := by
    injection hk with _ hk
    omega
  subst hde
  have h2 := h.at_ d hd
  rw [show D.atKey (keyL d) (numL 0) = .lit (.int .u64 c) from hat _] at h2
  injection h2 with h2
  injection h2 with _ h2
  exact ⟨d, rfl, hd, hf, h2⟩
theorem struck {left : Lit → Bool} {d e : Nat} : (left (keyL e) && !(keyL e).sameKey (keyL d)) = false ↔ left (keyL e) = false ∨ e = d := by
  rw [same_key]
  cases left (keyL e) <;> simp
theorem Gather.step {f : Nat → Nat} {left : Lit → Bool} {m : List Dot} (h : Gather f left m) {d : Nat} (hd : d < 65536) (hf : 0 < f d) (hl : left (keyL d) = true) : Gather f (fun z => left z && !z.sameKey (keyL d)) (m ++ [(d, f d)]) := by
  refine ⟨fun x hx => ?_, fun e he hle => ?_, ?_⟩
  · rcases List.mem_append.1 hx with hx | hx
    · obtain ⟨h1, h2, h3, h4⟩ := h.of_ x hx
      exact ⟨h1, h2, h3, struck.2 (.inl h4)⟩
    · obtain rfl := List.mem_singleton.1 hx
      exact ⟨hd, hf, rfl, struck.2 (.inr rfl)⟩
  · rcases struck.1 hle with h1 | h1
    · exact List.mem_append_left _ (h.all_ e he h1)
    · subst h1
      exact List.mem_append_right _ (List.mem_singleton.2 rfl)
  · rw [List.pairwise_append]
    refine ⟨h.once, List.pairwise_singleton _ _, fun a ha b hb => ?_⟩
    obtain rfl := List.mem_singleton.1 hb
    intro e
    have := (h.of_ a ha).2.2.2
    rw [e, hl] at this
    cases this
theorem Gather.fit {f : Nat → Nat} {left : Lit → Bool} {m : List Dot} (h : Gather f left m) (hf : Tells f) : Fit m := fun x hx => by
  obtain ⟨h1, h2, h3, _⟩ := h.of_ x hx
  have := hf.2.2 x.1
  exact ⟨h1, by omega⟩
/-- put in order, what was gathered is the vector that tells f. -/
theorem gather_end {f : Nat → Nat} {left : Lit → Bool} {m s : List Dot} (h : Gather f left m) (hf : Tells f) (hl : ∀ kl, left kl = false) (hs : Ord s) (hp : ∀ x, x ∈ s ↔ x ∈ m) : s = listV f := by
  refine ord_uniq hs (rise_up (list_rise f)) fun x => ?_
  rw [hp, list_mem hf]
  constructor
  · intro hx
    obtain ⟨_, h2, h3, _⟩ := h.of_ x hx
    exact ⟨h2, h3⟩
  · rintro ⟨h1, h2⟩
    have := h.all_ x.1 h1 (hl _)
    rwa [← h2] at this
/-- a sum over what is no longer to come: f's parts of it. -/
def partV (left : Lit → Bool) (g : Nat → Nat) : Nat := ((List.range topV).map (fun d => if left (keyL d) = true then 0 else g d)).sum
theorem part_sum (l : List Nat) (left : Lit → Bool) (g : Nat → Nat) (d : Nat) (hl : left (keyL d) = true) (hn : l.Nodup) :
    (l.map (fun e => if (left (keyL e) && !(keyL e).sameKey (keyL d)) = true then 0 else g e)).sum = (l.map (fun e => if left (keyL e) = true then 0 else g e)).sum + (if d ∈ l then g d else 0) := by
  induction l with
  | nil => simp
  | cons e l ih =>
    obtain ⟨h1, h2⟩ := List.nodup_cons.1 hn
    rw [List.map_cons, List.map_cons, List.sum_cons, List.sum_cons, ih h2, same_key]
    by_cases he : e = d
    · subst he
      simp [hl, h1, Nat.add_comm]
    · have he2 : ¬ d = e := fun h => he h.symm
      by_cases hd : d ∈ l <;> by_cases hle : left (keyL e) = true <;> simp [he, he2, hd, hle] <;> omega
theorem part_step {left : Lit → Bool} (g : Nat → Nat) {d : Nat} (hl : left (keyL d) = true) (hd : d < 65536) : partV (fun z => left z && !z.sameKey (keyL d)) g = partV left g + g d := by
  unfold partV
  rw [part_sum _ left g d hl List.nodup_range, if_pos (List.mem_range.2 (by rw [top_eq]; exact hd))]
theorem part_end {left : Lit → Bool} (g : Nat → Nat) (hl : ∀ kl, left kl = false) : partV left g = ((List.range topV).map g).sum := by
  unfold partV
  congr 1
  apply List.map_congr_left
  intro d _
  rw [hl]; simp
theorem part_start {D : DataW Unit} {f g : Nat → Nat} (h : Holds D f) (hg : ∀ d, f d = 0 → g d = 0) : partV (Maps.has D) g = 0 := by
  unfold partV
  rw [sum_zero]
  intro d hd
  by_cases hh : Maps.has D (keyL d) = true
  · rw [if_pos hh]
  · rw [if_neg hh]
    refine hg d ?_
    rcases Nat.eq_zero_or_pos (f d) with h0 | h0
    · exact h0
    · exact absurd (h.some_ d h0).2 hh
end Go.Proofs.Ytegclhgfibfanaa.Dt

/- The contracts of the program's functions of layer dot on single dots: Good, ahead, Cmp. For every dot of its types. -/
namespace Go.Proofs.Ytegclhgfibfanaa.Dt
open Go.ChangeShapes Go.WideShapes Go.ChangeAt Go.RowKit
set_option linter.unusedVariables false
set_option maxRecDepth 4000

theorem below_new2 (w : World) (o1 o2 : Obj) : Below w.heap.size w ((w.alloc o1).alloc o2) := (below_new w o1).alloc (below_new w o1).size o2

theorem pgood_any (w : World) (a n : Nat) :
    Calls Try.prog 25 #[.agg #[.int .u16 (a : Int), .int .u64 (n : Int)]] w fun e w' => e = .returned (.bool (mayD (a, n))) ∧ Below w.heap.size w w' := by
  have HB : Hid (Below w.heap.size w (w.alloc (.cells #[.int .u16 (a : Int), .int .u64 (n : Int)] 27))) := below_new w _
  by_cases c1 : 1 ≤ a
  · have d1 : ((a : Int) != 0) = true := by rw [bne_iff_ne]; omega
    by_cases c2 : 1 ≤ n
    · have d2 : ((n : Int) != 0) = true := by rw [bne_iff_ne]; omega
      have hd : mayD (a, n) = decide ((n : Int) ≤ 281474976710655) := decide_eq_decide.2 ⟨fun h => by have := h.2.2; simp at this; omega, fun h => ⟨c1, c2, by simp; omega⟩⟩
      rw [hd]
      clear hd
      go_enter Try.func25, Try.ntmps25
      go_wp2
      go_ret
      exact ⟨rfl, HB.out⟩
    · have hd : mayD (a, n) = false := decide_eq_false (fun h => c2 h.2.1)
      have d2 : ((n : Int) != 0) = false := by rw [bne_eq_false_iff_eq]; omega
      rw [hd]
      clear hd
      go_enter Try.func25, Try.ntmps25
      go_wp2
      go_ret
      exact ⟨rfl, HB.out⟩
  · have hd : mayD (a, n) = false := decide_eq_false (fun h => c1 h.1)
    have d1 : ((a : Int) != 0) = false := by rw [bne_eq_false_iff_eq]; omega
    rw [hd]
    clear hd
    go_enter Try.func25, Try.ntmps25
    go_wp2
    go_ret
    exact ⟨rfl, HB.out⟩
/-- the world with two dots more. -/
def two (w : World) (a b : Dot) : World := (w.alloc (.cells #[.int .u16 (a.1 : Int), .int .u64 (a.2 : Int)] 27)).alloc (.cells #[.int .u16 (b.1 : Int), .int .u64 (b.2 : Int)] 27)
theorem pahead_two (w : World) (a b : Dot) :
    Calls Try.prog 88 #[.agg #[.int .u16 (a.1 : Int), .int .u64 (a.2 : Int)], .agg #[.int .u16 (b.1 : Int), .int .u64 (b.2 : Int)]] w fun e w' => e = .returned (.bool (aheadD a b)) ∧ w' = two w a b := by
  obtain ⟨a1, a2⟩ := a
  obtain ⟨b1, b2⟩ := b
  by_cases h1 : a1 = b1
  · subst h1
    have hd : aheadD (a1, a2) (a1, b2) = decide (a2 < b2) := decide_eq_decide.2 ⟨fun h => by simp at h; omega, fun h => .inr ⟨rfl, by simp; omega⟩⟩
    rw [hd]
    clear hd
    go_enter Try.func88, Try.ntmps88
    go_wp2
    go_ret
    exact ⟨rfl, rfl⟩
  · have e1 : ((a1 : Int) != (b1 : Int)) = true := by rw [bne_iff_ne]; omega
    have hd : aheadD (a1, a2) (b1, b2) = decide (a1 < b1) := decide_eq_decide.2 ⟨fun h => by simp at h; omega, fun h => .inl (by simp; omega)⟩
    rw [hd]
    clear hd
    go_enter Try.func88, Try.ntmps88
    go_wp2
    go_ret
    exact ⟨rfl, rfl⟩
theorem pahead_any (w : World) (a b : Dot) :
    Calls Try.prog 88 #[.agg #[.int .u16 (a.1 : Int), .int .u64 (a.2 : Int)], .agg #[.int .u16 (b.1 : Int), .int .u64 (b.2 : Int)]] w fun e w' => e = .returned (.bool (aheadD a b)) ∧ Below w.heap.size w w' :=
  (pahead_two w a b).mono fun _ _ ⟨h1, h2⟩ => ⟨h1, by rw [h2]; exact below_new2 w _ _⟩
/-- what Cmp leaves: the two dots, laid once or twice. -/
def Left (w : World) (a b : Dot) (w' : World) : Prop := w' = two w a b ∨ w' = two (two w a b) a b
theorem pcmp_left (w : World) (a b : Dot) :
    Calls Try.prog 72 #[.agg #[.int .u16 (a.1 : Int), .int .u64 (a.2 : Int)], .agg #[.int .u16 (b.1 : Int), .int .u64 (b.2 : Int)]] w fun e w' => e = .returned (.int .i64 (cmpD a b)) ∧ Left w a b w' := by
  have CA := fun W => pahead_two W a b
  obtain ⟨a1, a2⟩ := a
  obtain ⟨b1, b2⟩ := b
  by_cases h : a1 = b1 ∧ a2 = b2
  · obtain ⟨rfl, rfl⟩ := h
    clear CA
    rw [cmp_same]
    go_enter Try.func72, Try.ntmps72
    go_wp2
    go_ret
    exact ⟨rfl, .inl rfl⟩
  · have hc : cmpD (a1, a2) (b1, b2) = if aheadD (a1, a2) (b1, b2) = true then -1 else 1 := if_neg (fun e => h (by cases e; exact ⟨rfl, rfl⟩))
    rw [hc]
    clear hc
    have hne : ((a1 : Int) == (b1 : Int)) = false ∨ (a1 = b1 ∧ ((a2 : Int) == (b2 : Int)) = false) := by
      by_cases e : a1 = b1
      · refine .inr ⟨by omega, ?_⟩; rw [beq_eq_false_iff_ne]; omega
      · refine .inl ?_; rw [beq_eq_false_iff_ne]; omega
    clear h
    rcases hne with q | ⟨rfl, q⟩
    all_goals
      generalize aheadD _ _ = ah at CA ⊢
      cases ah
      all_goals
        go_enter Try.func72, Try.ntmps72
        go_wp2_with fail
        refine (CA _).mono ?_
        rintro e w1 ⟨rfl, rfl⟩
        go_wp2
        go_ret
        exact ⟨rfl, .inr rfl⟩
theorem pcmp_any (w : World) (a b : Dot) :
    Calls Try.prog 72 #[.agg #[.int .u16 (a.1 : Int), .int .u64 (a.2 : Int)], .agg #[.int .u16 (b.1 : Int), .int .u64 (b.2 : Int)]] w fun e w' => e = .returned (.int .i64 (cmpD a b)) ∧ Below w.heap.size w w' :=
  (pcmp_left w a b).mono fun _ _ ⟨h1, h2⟩ => ⟨h1, by
    have h3 : Below w.heap.size w (two w a b) := below_new2 w _ _
    rcases h2 with rfl | rfl
    · exact h3
    · exact h3.trans (Below.mono (below_new2 (two w a b) _ _) h3.size)⟩
end Go.Proofs.Ytegclhgfibfanaa.Dt

/- Sorting dots, each once: plain arithmetic. -/
namespace Go.Proofs.Ytegclhgfibfanaa.Dt
open Go.ChangeShapes Go.WideShapes Go.ChangeAt Go.RowKit
set_option linter.unusedVariables false
set_option maxRecDepth 4000
theorem sort_from (l m : List Dot) (h : Ord m) : Ord (l.foldl putD m) ∧ ∀ x, x ∈ l.foldl putD m ↔ x ∈ m ∨ x ∈ l := by
  induction l generalizing m with
  | nil => exact ⟨h, fun x => by simp⟩
  | cons d l ih =>
    obtain ⟨h1, h2⟩ := ih (putD m d) (put_ord d h)
    refine ⟨h1, fun x => ?_⟩
    rw [List.foldl_cons, h2, put_mem, List.mem_cons]
    constructor
    · rintro ((h | h) | h)
      · exact .inr (.inl h)
      · exact .inl h
      · exact .inr (.inr h)
    · rintro (h | h | h)
      · exact .inl (.inr h)
      · exact .inl (.inl h)
      · exact .inr h
theorem sort_ord (l : List Dot) : Ord (sortD l) := (sort_from l [] List.Pairwise.nil).1
theorem sort_mem (l : List Dot) (x : Dot) : x ∈ sortD l ↔ x ∈ l := by rw [show sortD l = l.foldl putD [] from rfl, (sort_from l [] List.Pairwise.nil).2]; simp
theorem sort_uniq {l m : List Dot} (hm : Ord m) (h : ∀ x, x ∈ m ↔ x ∈ l) : m = sortD l :=
  ord_uniq hm (sort_ord l) (fun x => by rw [h, sort_mem])
theorem sort_same {l : List Dot} (h : Ord l) : sortD l = l := (sort_uniq h (fun x => Iff.rfl)).symm
end Go.Proofs.Ytegclhgfibfanaa.Dt

/- The contract of the program's 'told': the map of what a vector tells. For every list of at most 2^62 dots. -/
namespace Go.Proofs.Ytegclhgfibfanaa.Dt
open Go.ChangeShapes Go.WideShapes Go.ChangeAt Go.RowKit Go.Maps
set_option linter.unusedVariables false
set_option maxRecDepth 4000

theorem pgood_x (w : World) (d : Dot) :
    Calls Try.prog 25 #[.agg #[.int .u16 (d.1 : Int), .int .u64 (d.2 : Int)]] w fun e w' => e = .returned (.bool (mayD d)) ∧ w' = w.alloc (.cells #[.int .u16 (d.1 : Int), .int .u64 (d.2 : Int)] 27) := by
  obtain ⟨a, n⟩ := d
  by_cases c1 : 1 ≤ a
  · have d1 : ((a : Int) != 0) = true := by rw [bne_iff_ne]; omega
    by_cases c2 : 1 ≤ n
    · have d2 : ((n : Int) != 0) = true := by rw [bne_iff_ne]; omega
      have hd : mayD (a, n) = decide ((n : Int) ≤ 281474976710655) := decide_eq_decide.2 ⟨fun h => by have := h.2.2; simp at this; omega, fun h => ⟨c1, c2, by simp; omega⟩⟩
      rw [hd]
      clear hd
      go_enter Try.func25, Try.ntmps25
      go_wp2
      go_ret
      exact ⟨rfl, rfl⟩
    · have hd : mayD (a, n) = false := decide_eq_false (fun h => c2 h.2.1)
      have d2 : ((n : Int) != 0) = false := by rw [bne_eq_false_iff_eq]; omega
      rw [hd]
      clear hd
      go_enter Try.func25, Try.ntmps25
      go_wp2
      go_ret
      exact ⟨rfl, rfl⟩
  · have hd : mayD (a, n) = false := decide_eq_false (fun h => c1 h.1)
    have d1 : ((a : Int) != 0) = false := by rw [bne_eq_false_iff_eq]; omega
    rw [hd]
    clear hd
    go_enter Try.func25, Try.ntmps25
    go_wp2
    go_ret
    exact ⟨rfl, rfl⟩
/-- the box of a dot that came in. -/
theorem box_at (w : World) (d : Dot) : ∀ V, Below (w.alloc (.cells #[.int .u16 (d.1 : Int), .int .u64 (d.2 : Int)] 27)).heap.size (w.alloc (.cells #[.int .u16 (d.1 : Int), .int .u64 (d.2 : Int)] 27)) V → V.cell? ⟨w.heap.size, 0, none⟩ = some (.int .u16 (d.1 : Int)) ∧ V.cell? ⟨w.heap.size, 1, none⟩ = some (.int .u64 (d.2 : Int)) := by
  intro V hV
  have h1 : (w.alloc (.cells #[.int .u16 (d.1 : Int), .int .u64 (d.2 : Int)] 27)).cell? ⟨w.heap.size, 0, none⟩ = some (.int .u16 (d.1 : Int)) := by simp [go_sem]
  have h2 : (w.alloc (.cells #[.int .u16 (d.1 : Int), .int .u64 (d.2 : Int)] 27)).cell? ⟨w.heap.size, 1, none⟩ = some (.int .u64 (d.2 : Int)) := by simp [go_sem]
  exact ⟨(hV.cell (World.block_lt_of_cell? _ _ h1)).trans h1, (hV.cell (World.block_lt_of_cell? _ _ h2)).trans h2⟩
/-- what a map says behind a dot more. -/
def stepM (f : Nat → Nat) (d : Dot) : Nat → Nat := fun e => stepV e (f e) d
theorem stepM_not {f : Nat → Nat} {d : Dot} (h : mayD d = false) : stepM f d = f := by
  funext e
  refine if_neg ?_
  rintro ⟨rfl, h2, h3⟩
  rw [h] at h2; cases h2
theorem stepM_put {f : Nat → Nat} {d : Dot} (h1 : mayD d = true) : (fun e => if e = d.1 then max (f d.1) d.2 else f e) = stepM f d := by
  funext e
  unfold stepM
  rw [step_max]
  by_cases he : e = d.1
  · subst he; rw [if_pos rfl, if_pos ⟨rfl, h1⟩]
  · rw [if_neg he, if_neg (fun h => he h.1.symm)]
theorem grown_two (w : World) (o1 o2 : Obj) (row : Option Nat) : w.grownBy ((w.alloc o1).alloc o2) row := (World.grownBy_alloc w o1 row).trans (World.grownBy_alloc _ o2 row)
theorem map_new (w : World) : MapAt (w.alloc (.map #[] 0)) w.heap.size 0 (fun _ => 0) := ⟨.map [], World.ownsMap_made _ _ _ _, holds_none⟩
theorem told_next {l : List Dot} {k : Nat} {x : Dot} (h : l[k]? = some x) : ofV (l.take (k + 1)) = stepM (ofV (l.take k)) x := funext fun e => of_next e h
set_option maxHeartbeats 4000000 in
theorem ptold_any (w : World) (A : Option Addr) (l : List Dot) (n c : Nat) (hl : l.length = n) (hd : Dots w w.heap.size A l) (hn : n ≤ 4611686018427387904) :
    Calls Try.prog 46 #[.slice A n c] w fun e w' => e = .returned (.map (some w.heap.size)) ∧ MapAt w' w.heap.size 65536 (ofV l) ∧ Below w.heap.size w w' := by
  have hmm := @run_makeMap Try.prog
  have HL := Lib.hid hl
  have HF := Lib.hid hd
  have HM0 := Lib.hid (map_new w)
  have HB0 : Hid (Below w.heap.size w (w.alloc (.map #[] 0))) := below_new w _
  clear hl hd
  go_enter Try.func46, Try.ntmps46
  go_wp2_with fail
  generalize w.alloc (.map #[] 0) = w0 at HM0 HB0 ⊢
  go_loopw [9] (fun i wr => ∃ k : Nat, k ≤ n ∧ i = .int .i64 (k : Int) ∧ MapAt wr w.heap.size k (ofV (l.take k)) ∧ Below w.heap.size w wr) (fun i _ => n - (intOf i).toNat)
  case atStart => exact ⟨0, Nat.zero_le _, rfl, HM0.out, HB0.out⟩
  case round =>
    obtain ⟨k, hk, rfl, hm, hw⟩ := hrel
    have HM := Lib.hid hm
    have HW := Lib.hid hw
    clear hm hw
    by_cases hlt : k < n
    · obtain ⟨ad, x, rfl, hB, hlx, hx1, hx2, hcx⟩ := HF.out.cells (k := k) (by rw [HL.out]; exact hlt)
      have HN := Lib.hid (told_next hlx)
      clear hlx
      obtain ⟨d1, d2⟩ := hcx wr HW.out
      have G1 : Hid (wr.grownBy ((wr.alloc (.cells #[.int .u16 (x.1 : Int), .int .u64 (x.2 : Int)] 27)).alloc (.cells #[.int .u16 (x.1 : Int), .int .u64 (x.2 : Int)] 27)) (some w.heap.size)) := grown_two _ _ _ _
      have HM1 : Hid (MapAt ((wr.alloc (.cells #[.int .u16 (x.1 : Int), .int .u64 (x.2 : Int)] 27)).alloc (.cells #[.int .u16 (x.1 : Int), .int .u64 (x.2 : Int)] 27)) w.heap.size k (ofV (l.take k))) := HM.out.below (below_new2 wr _ _) HM.out.lt
      have CG := fun W => pgood_x W x
      clear hcx
      cases hmx : mayD x with
      | false =>
        have HS := Lib.hid (stepM_not (f := ofV (l.take k)) hmx)
        rw [hmx] at CG
        clear hmx
        go_wp2_with fail
        refine (CG _).mono ?_
        rintro e w1 ⟨rfl, rfl⟩
        have HM2 : Hid (MapAt ((wr.alloc (.cells #[.int .u16 (x.1 : Int), .int .u64 (x.2 : Int)] 27)).alloc (.cells #[.int .u16 (x.1 : Int), .int .u64 (x.2 : Int)] 27)) w.heap.size (k + 1) (ofV (l.take (k + 1)))) := (HM1.out.more (Nat.le_succ _)).turn (by rw [HN.out, HS.out])
        have HW2 : Hid (Below w.heap.size w ((wr.alloc (.cells #[.int .u16 (x.1 : Int), .int .u64 (x.2 : Int)] 27)).alloc (.cells #[.int .u16 (x.1 : Int), .int .u64 (x.2 : Int)] 27))) := HW.out.grown G1.out HW.out.size (fun j hj => by cases hj; exact Nat.le_refl _)
        clear d1 d2
        go_wp2
        go_roundw
        case rel => exact ⟨k + 1, by omega, by go_num, HM2.out, HW2.out⟩
        case measure => simp [intOf]; omega
      | true =>
        have HP : Hid (0 < x.2) := ((may_iff x).1 hmx).2.1
        have HS := Lib.hid (stepM_put (f := ofV (l.take k)) hmx)
        rw [hmx] at CG
        clear hmx
        go_wp2_with fail
        refine (CG _).mono ?_
        rintro e w1 ⟨rfl, rfl⟩
        obtain ⟨d3, d4⟩ := box_at wr x _ (below_new (wr.alloc (.cells #[.int .u16 (x.1 : Int), .int .u64 (x.2 : Int)] 27)) (.cells #[.int .u16 (x.1 : Int), .int .u64 (x.2 : Int)] 27))
        have hfl : ofV (l.take k) x.1 < 18446744073709551616 := Nat.lt_trans (of_lt _ _) (by decide)
        by_cases hlt2 : ofV (l.take k) x.1 < x.2
        · rw [Nat.max_eq_right (Nat.le_of_lt hlt2)] at HS
          go_wp2_with (first
            | (at_lookup; refine wpList_look (by rfl) _ _ rfl w.heap.size k x.1 (ofV (l.take k)) rfl HM1.out hx1 rfl ?_)
            | (at_mapUpdate; refine wpList_put rfl _ _ _ rfl w.heap.size k x.1 x.2 (ofV (l.take k)) rfl HM1.out (by omega) hx1 rfl rfl HP.out hx2 ?_; intro w2 hm2 hg2
               have HM2 : Hid (MapAt w2 w.heap.size (k + 1) (ofV (l.take (k + 1)))) := hm2.turn (HS.out.trans HN.out.symm)
               have HW2 : Hid (Below w.heap.size w w2) := HW.out.grown (G1.out.trans hg2) HW.out.size (fun j hj => by cases hj; exact Nat.le_refl _)
               clear hm2 hg2 d1 d2 d3 d4)
            | go_in)
          go_roundw
          case rel => exact ⟨k + 1, by omega, by go_num, HM2.out, HW2.out⟩
          case measure => simp [intOf]; omega
        · have HP2 : Hid (0 < ofV (l.take k) x.1) := Nat.lt_of_lt_of_le HP.out (Nat.le_of_not_lt hlt2)
          rw [Nat.max_eq_left (Nat.le_of_not_lt hlt2)] at HS
          go_wp2_with (first
            | (at_lookup; refine wpList_look (by rfl) _ _ rfl w.heap.size k x.1 (ofV (l.take k)) rfl HM1.out hx1 rfl ?_)
            | (at_mapUpdate; refine wpList_put rfl _ _ _ rfl w.heap.size k x.1 (ofV (l.take k) x.1) (ofV (l.take k)) rfl HM1.out (by omega) hx1 rfl rfl HP2.out hfl ?_; intro w2 hm2 hg2
               have HM2 : Hid (MapAt w2 w.heap.size (k + 1) (ofV (l.take (k + 1)))) := hm2.turn (HS.out.trans HN.out.symm)
               have HW2 : Hid (Below w.heap.size w w2) := HW.out.grown (G1.out.trans hg2) HW.out.size (fun j hj => by cases hj; exact Nat.le_refl _)
               clear hm2 hg2 d1 d2 d3 d4)
            | go_in)
          go_roundw
          case rel => exact ⟨k + 1, by omega, by go_num, HM2.out, HW2.out⟩
          case measure => simp [intOf]; omega
    · obtain rfl : k = n := by omega
      have e : Hid (l.take k = l) := Lib.hid (List.take_of_length_le (by rw [HL.out]; exact Nat.le_refl _))
      rw [e.out] at HM
      have HT := Lib.hid HM.out.tight
      go_wp2
      go_ret
      exact ⟨rfl, HT.out, HW.out⟩
end Go.Proofs.Ytegclhgfibfanaa.Dt

/- The contract of the program's 'inOrder': the vector, in order, that tells what a map of devices does; dot.Sort comes in as a hypothesis. -/
namespace Go.Proofs.Ytegclhgfibfanaa.Dt
open Go.ChangeShapes Go.WideShapes Go.ChangeAt Go.RowKit Go.Maps
set_option linter.unusedVariables false
set_option maxRecDepth 4000

/-- what dot.Sort is asked. -/
def Sorts : Prop := ∀ (w : World) (A : Option Addr) (l : List Dot) (n c : Nat), l.length = n → (A = none → n = 0 ∧ c = 0) → Dots w w.heap.size A l → n ≤ 4398046511104 → Calls Try.prog 56 #[.slice A n c] w (DotPost w (sortD l))
/-- put in order, what was gathered is the vector that tells f. -/
theorem gather_sort {f : Nat → Nat} {left : Lit → Bool} {m : List Dot} (h : Gather f left m) (hf : Tells f) (hl : ∀ kl, left kl = false) : sortD m = listV f := gather_end h hf hl (sort_ord m) (fun x => sort_mem m x)
theorem post_up {w W V : World} {m : List Dot} {e : Ending} (hb : Below w.heap.size w W) (h : DotPost W m e V) : DotPost w m e V := by
  obtain ⟨A, n, c, h1, h2, h3, h4⟩ := h
  exact ⟨A, n, c, h1, h2, own_less h3 hb.size, hb.trans (h4.mono hb.size)⟩
theorem ne_iter {w : World} {B b r n k c : Nat} {D : DataW Unit} {left : Lit → Bool} {cnt : Nat} {A : Option Addr} {xs : List Value} (h : w.ranges Try.prog 24 (plainElem Try.prog 25) b r n D left cnt) (ho : w.ownsRow B 27 2 (.slice A k c) k xs) :
    (Value.slice A k c).ownBlock = none ∨ (Value.slice A k c).ownBlock ≠ some r := by
  rcases ho.2 with ⟨h1, _⟩ | ⟨g, cap, cur, h1, _, h2, _⟩
  · cases h1; exact .inl rfl
  · cases h1
    right
    intro e
    have e2 : g = r := by simpa [Value.ownBlock] using e
    obtain ⟨es, clock, since, seen, c0, _, _, _, _, h3, _⟩ := h
    rw [← e2, h2] at h3
    cases h3
theorem own_from {w : World} {B k c : Nat} {A : Option Addr} {xs : List Value} (ho : w.ownsRow B 27 2 (.slice A k c) k xs) : ∀ j, (Value.slice A k c).ownBlock = some j → B ≤ j := by
  intro j hj
  cases A with
  | none => cases hj
  | some ad =>
    have e2 : ad.block = j := by simpa [Value.ownBlock] using hj
    have := (ho.lt ad.block rfl).1
    omega
set_option maxHeartbeats 4000000 in
theorem pinorder_any (hsort : Sorts) (w : World) (b n : Nat) (f : Nat → Nat) (h0 : MapAt w b n f) (hf : Tells f) :
    Calls Try.prog 45 #[.map (some b)] w (DotPost w (listV f)) := by
  have h := h0.tight
  obtain ⟨i0, hi0, hz0, hz1, hz2⟩ := info_parts dot_info
  have HT := Lib.hid h
  obtain ⟨D, hown, hh⟩ := h
  have HH := Lib.hid hh
  have HF := Lib.hid hf
  have HWN := Lib.hid hown
  have hbl := hown.lt
  have hlen := hown.len (t := 74) (e := 25) Try.underlying74 3
  have hkn := hown.size_le
  obtain ⟨kn, hknD⟩ : ∃ kn, Maps.size D = kn := ⟨_, rfl⟩
  have HKN := Lib.hid hknD
  rw [hknD] at hlen hkn
  clear hh hf h0 hown hknD
  go_enter Try.func45, Try.ntmps45
  go_wp2_with (first
    | (at_make
       refine wpList_make_own _ rfl _ _ 37 rfl w.heap.size 27 i0 (.agg #[.int .u16 0, .int .u64 0]) 2 Try.underlying37 hi0 hz0 hz1 _ _ _ kn rfl rfl rfl (by rw [hz2]; omega) (by simp only [maxLen]; omega) (Nat.le_refl _) ?_
       intro w1 ho1 hg1
       have HO1 := Lib.hid ho1
       have HG1 := Lib.hid hg1
       have HWN1 := Lib.hid (HWN.out.kept hg1 (fun e => by cases e))
       clear ho1 hg1)
    | (at_range; refine wpList_range_own _ rfl _ 74 rfl 24 25 law16 Try.underlying74 _ b 65536 _ rfl HWN1.out ?_; intro w0 hrg0 hg0 hs0)
    | go_in)
  have HR0 := Lib.hid hrg0
  have HB0 : Hid (Below w.heap.size w w0) := Lib.hid (((Below.refl _ w).grown HG1.out (Nat.le_refl _) (fun j hj => by cases hj)).grown hg0 HG1.out.size (fun j hj => by cases hj))
  have hsz := HWN1.out.size_le
  have HS0 := Lib.hid hs0
  have HO2 : Hid (w0.ownsRow w.heap.size 27 2 (.slice (some ⟨w.heap.size, 0, none⟩) 0 kn) 0 (dv [])) := HO1.out.kept hg0 (.inr (fun e => by cases e))
  have hw1 := HG1.out.size
  clear hrg0 hg0 hs0 hlen
  go_frame
  go_loopw [3] (fun v wr => ∃ (left : Lit → Bool) (cnt : Nat) (m : List Dot) (A : Option Addr) (k c : Nat), v = .slice A k c ∧ m.length = k ∧ k + cnt ≤ 65536 ∧ wr.ranges Try.prog 24 (plainElem Try.prog 25) b w1.heap.size 65536 D left cnt ∧ Gather f left m ∧
      wr.ownsRow w.heap.size 27 2 (.slice A k c) k (dv m) ∧ Below w.heap.size w wr) (fun _ wr => wr.rangeLeft b w1.heap.size)
  case atStart => exact ⟨_, _, [], _, 0, kn, rfl, rfl, by omega, HR0.out, gather_start HH.out, HO2.out, HB0.out⟩
  case round =>
    obtain ⟨left, cnt, m, A, k, c, rfl, hm, hkn2, hrg, hga, ho, hw⟩ := hrel
    have HM := Lib.hid hm
    have HG := Lib.hid hga
    have HO := Lib.hid ho
    have HW := Lib.hid hw
    have HRL := Lib.hid hrg.left_eq
    have HNE := Lib.hid (ne_iter hrg ho)
    clear hm hga ho hw
    go_wp2_with (first
      | (at_next; refine wpList_next_ranges_ii _ rfl _ rfl 24 25 .u16 .u64 law16 Try.underlying24 Try.underlying25 b w1.heap.size 65536 _ _ _ rfl hrg ?_ ?_)
      | go_in)
    · intro hc0 hl0
      have HE := Lib.hid hl0
      clear hrg
      obtain ⟨hn1, hn2, hn3⟩ := own_len HO.out
      have CS := hsort wr A m k c HM.out hn3 (dots_own HO.out (HG.out.fit HF.out)) (by omega)
      rw [gather_sort HG.out HF.out HE.out] at CS
      clear hn1 hn2 hn3
      go_wp2_with fail
      refine CS.mono ?_
      intro e V hp
      obtain ⟨A2, n2, c2, rfl, h2, h3, h4⟩ := post_up HW.out hp
      clear hp CS
      have HP2 := Lib.hid (And.intro h2 (And.intro h3 h4))
      clear h2 h3 h4
      go_wp2
      go_ret
      exact ⟨A2, n2, c2, rfl, HP2.out⟩
    · intro x y wn cnt1 hwx hwc hlx hat hrg1 hlt hg1 hs1 hen
      obtain ⟨d, rfl, hd, hfd, rfl⟩ := entry_is HH.out hwx hat
      have HG1 := Lib.hid (HG.out.step hd hfd hlx)
      have HO1 := Lib.hid ((HO.out.kept hg1 HNE.out).alloc (.cells #[.int .u16 (d : Int), .int .u64 ((f d : Nat) : Int)] 27))
      have HW1 : Hid (Below w.heap.size w (wn.alloc (.cells #[.int .u16 (d : Int), .int .u64 ((f d : Nat) : Int)] 27))) := Lib.hid (bel_alloc _ (HW.out.grown hg1 HW.out.size (fun j hj => by cases hj; exact hw1)))
      have HR1 := Lib.hid (hrg1.alloc (.cells #[.int .u16 (d : Int), .int .u64 ((f d : Nat) : Int)] 27))
      clear hg1 hrg hrg1 hat hwx hwc hs1
      go_wp2_with (first
        | (at_builtin; refine wpList_own rfl (.tmp 16) (.tmp 20) rfl rfl _ w.heap.size k (.slice A k c) m (some ⟨wn.heap.size, 0, none⟩) [(d, f d)] 1 1 rfl rfl HO1.out (fun h => by cases h) (lies_one wn (d, f d)) rfl (by omega) HW1.out.size ?_; intro A3 c3 w3 ho3 hg3)
        | go_in)
      have HR3 := Lib.hid (HR1.out.kept hg3 (fun e => by have := own_from HO1.out b e.symm; omega) (fun e => by rcases HNE.out with h | h; rw [h] at e; cases e; exact h e.symm))
      have HW3 : Hid (Below w.heap.size w w3) := Lib.hid (any_grown HO1.out HW1.out hg3)
      have hlen : (m ++ [(d, f d)]).length = k + 1 := by rw [List.length_append, HM.out]; rfl
      refine ⟨⟨_, cnt1, m ++ [(d, f d)], A3, k + 1, c3, rfl, hlen, by omega, HR3.out, HG1.out, ho3, HW3.out⟩, ?_⟩
      rw [HR3.out.left_eq, HRL.out]
      exact hlt
end Go.Proofs.Ytegclhgfibfanaa.Dt

/- The contracts of the program's Norm, Join and Put. For all vectors of at most 2^43 dots. -/
namespace Go.Proofs.Ytegclhgfibfanaa.Dt
open Go.ChangeShapes Go.WideShapes Go.ChangeAt Go.RowKit
set_option linter.unusedVariables false
set_option maxRecDepth 4000

theorem pnorm_long (hsort : Sorts) (w : World) (A : Option Addr) (l : List Dot) (n c : Nat) (hl : l.length = n) (hd : Dots w w.heap.size A l) (hn : n ≤ 4611686018427387904) :
    Calls Try.prog 34 #[.slice A n c] w (DotPost w (normV l)) := by
  have CT := ptold_any w A l n c hl hd hn
  have HT := Lib.hid (tells_of hd.1)
  have HS := Lib.hid hsort
  clear hl hd hsort
  go_enter Try.func34, Try.ntmps34
  go_wp2_with fail
  refine CT.mono ?_
  rintro e w1 ⟨rfl, hm, hb⟩
  have CI := pinorder_any HS.out w1 w.heap.size 65536 (ofV l) hm HT.out
  have HB := Lib.hid hb
  clear hm hb CT
  go_wp2_with fail
  refine CI.mono ?_
  intro e w2 hp
  obtain ⟨A2, n2, c2, rfl, h2, h3, h4⟩ := post_up HB.out hp
  have HP := Lib.hid (And.intro h2 (And.intro h3 h4))
  clear hp h2 h3 h4 CI
  go_wp2
  go_ret
  exact ⟨A2, n2, c2, rfl, HP.out⟩
end Go.Proofs.Ytegclhgfibfanaa.Dt

/- The contract of slices.Compact at dots. For every list of one's own. -/
namespace Go.Proofs.Ytegclhgfibfanaa.Dt
open Go.ChangeShapes Go.WideShapes Go.ChangeAt Go.RowKit Go.Lib
set_option linter.unusedVariables false
set_option maxRecDepth 4000

theorem dv_set {l : List Dot} {k : Nat} (r : Dot) : dv (l.set k r) = ((dv l).set (k * 2) (.int .u16 (r.1 : Int))).set (k * 2 + 1) (.int .u64 (r.2 : Int)) := by
  induction l generalizing k with
  | nil => simp [dv]
  | cons x l ih =>
    cases k with
    | zero => rfl
    | succ k =>
      have e : ∀ (y : Dot) (m : List Dot), dv (y :: m) = .int .u16 (y.1 : Int) :: .int .u64 (y.2 : Int) :: dv m := fun _ _ => rfl
      have e1 : (k + 1) * 2 = k * 2 + 2 := by omega
      rw [List.set_cons_succ, e, e, ih, e1]
      rfl
theorem dv_at {l : List Dot} {k : Nat} (hk : k < l.length) : (dv l)[k * 2]? = some (.int .u16 ((l.toArray[k]!).1 : Int)) ∧ (dv l)[k * 2 + 1]? = some (.int .u64 ((l.toArray[k]!).2 : Int)) := by
  have e : l.toArray[k]! = l[k] := by rw [getElem!_pos _ _ (by simpa using hk)]; simp
  rw [e]
  exact dv_get (List.getElem?_eq_getElem hk)
/-- the cells of a row of dots, and that they may be written. -/
theorem row_at {w : World} {B g n cap : Nat} {d : List Dot} (h : w.ownsRow B 27 2 (.slice (some ⟨g, 0, none⟩) n cap) n (dv d)) (hd : d.length = n) {k : Nat} (hk : k < n) :
    (w.cell? ⟨g, k * 2, none⟩ = some (.int .u16 ((d.toArray[k]!).1 : Int)) ∧ w.cell? ⟨g, k * 2 + 1, none⟩ = some (.int .u64 ((d.toArray[k]!).2 : Int))) ∧ w.frozen? ⟨g, k * 2, none⟩ = false ∧ w.frozen? ⟨g, k * 2 + 1, none⟩ = false := by
  obtain ⟨h1, h2⟩ := dv_at (l := d) (k := k) (by omega)
  exact ⟨⟨(h.cellAt _ (by omega)).trans h1, (h.cellAt _ (by omega)).trans h2⟩, h.frozenAt _, h.frozenAt _⟩

theorem dv_cons (y : Dot) (m : List Dot) : dv (y :: m) = .int .u16 (y.1 : Int) :: .int .u64 (y.2 : Int) :: dv m := rfl
theorem dv_take (l : List Dot) (k : Nat) : (dv l).take (k * 2) = dv (l.take k) := by
  induction l generalizing k with
  | nil => simp [dv]
  | cons x l ih =>
    cases k with
    | zero => simp [dv]
    | succ k =>
      have e1 : (k + 1) * 2 = k * 2 + 2 := by omega
      rw [List.take_succ_cons, dv_cons, dv_cons, e1, List.take_succ_cons, List.take_succ_cons, ih]
/-- a row of one's own, cut. -/
theorem own_take {w : World} {B g n cap k : Nat} {xs : List Value} (h : w.ownsRow B 27 2 (.slice (some ⟨g, 0, none⟩) n cap) n xs) (hk : k ≤ n) : w.ownsRow B 27 2 (.slice (some ⟨g, 0, none⟩) k cap) k (xs.take (k * 2)) := by
  refine ⟨by rw [List.length_take, h.1]; omega, ?_⟩
  rcases h.2 with ⟨h', _⟩ | ⟨g', cap', cur, h', hb, hg, hnc, hcm, hcs, htake⟩
  · simp at h'
  · simp only [Value.slice.injEq, Option.some.injEq, Addr.mk.injEq, and_true, true_and] at h'
    obtain ⟨rfl, rfl⟩ := h'
    exact .inr ⟨g, cap, cur, rfl, hb, hg, by omega, hcm, hcs, by rw [← htake, List.take_take]; congr 1; omega⟩
/-- cells written into a row from a place on: what lies ahead of it stays. -/
theorem own_cells {w : World} {B g n cap : Nat} {xs : List Value} (o : Nat) (vs : List Value) (h : w.ownsRow B 27 2 (.slice (some ⟨g, 0, none⟩) n cap) n xs) : ∃ ys : List Value, (w.setCells g o vs).ownsRow B 27 2 (.slice (some ⟨g, 0, none⟩) n cap) n ys ∧ ys.take o = xs.take o ∧ w.grownBy (w.setCells g o vs) (some g) := by
  induction vs generalizing w xs o with
  | nil => exact ⟨xs, h, rfl, turn_refl _ _⟩
  | cons v vs ih =>
    obtain ⟨h1, h2⟩ := h.stored o v
    obtain ⟨ys, h3, h4, h5⟩ := ih (o + 1) h1
    refine ⟨ys, h3, ?_, h2.trans h5⟩
    have h6 := congrArg (List.take o) h4
    rw [List.take_take, List.take_take, show min o (o + 1) = o by omega] at h6
    rw [h6, List.take_set_of_le (Nat.le_refl _)]
theorem zeros_len (m : Nat) : (Builtin.zeroCells #[.int .u16 0, .int .u64 0] m).size = m * 2 := by simp [Builtin.zeroCells]
theorem zeros_one (m : Nat) : ∀ v ∈ (Builtin.zeroCells #[.int .u16 0, .int .u64 0] m).toList, v.oneCell' = true := by
  intro v hv
  simp [Builtin.zeroCells] at hv
  obtain ⟨i, _, rfl⟩ := hv
  rcases Nat.mod_two_eq_zero_or_one i with h | h <;> simp [h] <;> rfl
/-- clear of the end of a row of one's own. -/
theorem run_clear {w : World} {B g n cap k : Nat} {xs : List Value} (h : w.ownsRow B 27 2 (.slice (some ⟨g, 0, none⟩) n cap) n xs) (hk : k < n) (c' : Nat) (ty : TypeId) :
    (Builtin.clear_ #[35] ty #[.slice (some ⟨g, k * 2, none⟩) (n - k) c']).run Try.prog w = .ok (.tuple #[]) (w.setCells g (k * 2) (Builtin.zeroCells #[.int .u16 0, .int .u64 0] (n - k)).toList) := by
  have hl : (Builtin.zeroCells #[.int .u16 0, .int .u64 0] (n - k)).toList.length = (n - k) * 2 := by rw [Array.length_toList, zeros_len]
  have hst := run_storeCells_cells (P := Try.prog) g (k * 2) (Builtin.zeroCells #[.int .u16 0, .int .u64 0] (n - k)).toList 0 w
    (fun j hj => by
      rw [hl] at hj
      have h1 := h.1
      rw [h.cellAt _ (by omega), List.getElem?_eq_getElem (by omega)]; rfl)
    (fun j hj => h.frozenAt _) (zeros_one _)
  simp only [Nat.add_zero] at hst
  obtain ⟨m, hm⟩ : ∃ m, n - k = m + 1 := ⟨n - k - 1, by omega⟩
  rw [hm] at hst ⊢
  simp [Builtin.clear_, run_underlying Try.underlying35, Value.cells, hst]

theorem comp_take {d : Array Dot} {n kk : Nat} {dk : List Dot} (h : CompInv d n kk dk.toArray) (hk : kk ≤ dk.length) : dk.take kk = compactUpTo d n := by
  apply List.ext_getElem?
  intro j
  rw [List.getElem?_take]
  by_cases hj : j < kk
  · rw [if_pos hj, h.low j hj, getElem!_pos dk.toArray j (by simpa using Nat.lt_of_lt_of_le hj hk), List.getElem?_eq_getElem (by omega)]
    simp
  · rw [if_neg hj, List.getElem?_eq_none (by rw [h.len]; omega)]
theorem grown_drew {w wr : World} {r : Option Nat} (h : w.grownBy wr r) (q : Nat) : w.grownBy (wr.drewN q) r := h.trans ⟨rfl, rfl, rfl, Nat.le_refl _, fun _ _ _ => rfl⟩
set_option maxHeartbeats 4000000 in
theorem pcompact_any (w : World) (B g cap n : Nat) (d : List Dot) (hn : d.length = n) (h62 : n < 4611686018427387904) (h : w.ownsRow B 27 2 (.slice (some ⟨g, 0, none⟩) n cap) n (dv d)) :
    Calls Try.prog 73 #[.slice (some ⟨g, 0, none⟩) n cap] w fun e w' => ∃ k, e = .returned (.slice (some ⟨g, 0, none⟩) k cap) ∧ k = (compactUpTo d.toArray n).length ∧ w'.ownsRow B 27 2 (.slice (some ⟨g, 0, none⟩) k cap) k (dv (compactUpTo d.toArray n)) ∧ w.grownBy w' (some g) := by
  have H := Lib.hid h
  have HN := Lib.hid hn
  have hcap := (own_len h).1
  clear h hn
  by_cases h2 : n < 2
  · have d2 : decide ((n : Int) < 2) = true := decide_eq_true (by omega)
    have e : compactUpTo d.toArray n = d := by
      rw [compactUpTo_all d.toArray n (fun j hj => keeps_lt_one _ j (by omega))]
      have := range_map_get d.toArray
      simp only [List.size_toArray, HN.out] at this
      rw [this]
    rw [e]
    go_enter Try.func73, Try.ntmps73
    go_wp2
    go_ret
    exact ⟨n, rfl, HN.out.symm, H.out, turn_refl _ _⟩
  · have d2 : decide ((n : Int) < 2) = false := decide_eq_false (by omega)
    go_enter Try.func73, Try.ntmps73
    go_wp2
    go_loopw [3] (fun i wr => ∃ k q : Nat, i = .int .i64 (k : Int) ∧ 1 ≤ k ∧ k ≤ n ∧ wr = w.drewN q ∧ ∀ j, j < k → keeps d.toArray j = true) (fun i _ => n - (intOf i).toNat)
    case atStart => exact ⟨1, 0, rfl, Nat.le_refl _, by omega, rfl, keeps_lt_one _⟩
    case round =>
      obtain ⟨k, q, rfl, hk1, hk, rfl, hall⟩ := hrel
      have A := Lib.hid hall
      clear hall
      by_cases hlt : k < n
      · obtain ⟨⟨c1, c2⟩, _, _⟩ := row_at H.out HN.out hlt
        obtain ⟨⟨c3, c4⟩, _, _⟩ := row_at H.out HN.out (k := k - 1) (by omega)
        generalize hx : d.toArray[k]! = x at c1 c2
        generalize hy : d.toArray[k - 1]! = y at c3 c4
        obtain ⟨x1, x2⟩ := x
        obtain ⟨y1, y2⟩ := y
        have BB := Lib.hid (And.intro hx hy)
        clear hx hy
        obtain ⟨i, rfl⟩ : ∃ i, k = i + 1 := ⟨k - 1, by omega⟩
        have ei : i + 1 - 1 = i := by omega
        rw [ei] at c3 c4
        clear ei
        by_cases hxy : x1 = y1 ∧ x2 = y2
        · obtain ⟨rfl, rfl⟩ := hxy
          have HS := Lib.hid (CompInv.start A.out (keeps_neg (d := d.toArray) (m := i + 1) (by omega) (by rw [BB.out.1, BB.out.2])))
          have hcap1 : i + 1 < cap := by omega
          have HCap := Lib.hid hcap
          clear hk1 hk hcap
          go_wp2_with fail
          go_quiet (fail)
          clear c1 c2 c3 c4
          go_wp2
          go_loopw [3, 5] (fun s3 s5 wr => ∃ (kk j : Nat) (dk : List Dot), s3 = .int .i64 (kk : Int) ∧ s5 = .int .i64 ((j : Int) + 1) ∧ i + 1 + (j + 1) ≤ n ∧ wr.ownsRow B 27 2 (.slice (some ⟨g, 0, none⟩) n cap) n (dv dk) ∧ dk.length = n ∧ CompInv d.toArray (i + 1 + (j + 1)) kk dk.toArray ∧ w.grownBy wr (some g)) (fun _ s5 _ => n - (intOf s5).toNat)
          case atStart => exact ⟨i + 1, 0, d, rfl, rfl, by omega, H.out, HN.out, HS.out, ⟨rfl, rfl, rfl, Nat.le_refl _, fun _ _ _ => rfl⟩⟩
          case round =>
            obtain ⟨kk, j, dk, rfl, rfl, hle, hw, hl, hI, hg⟩ := hrel
            have hkk := hI.lt
            have W := Lib.hid hw
            have L := Lib.hid hl
            have I := Lib.hid hI
            have G := Lib.hid hg
            clear hw hl hI hg
            by_cases hlt2 : i + 1 + (j + 1) < n
            · obtain ⟨⟨a1, a2⟩, _, _⟩ := row_at W.out L.out hlt2
              obtain ⟨⟨a3, a4⟩, _, _⟩ := row_at W.out L.out (k := i + 1 + j) (by omega)
              obtain ⟨⟨a5, a6⟩, f5, f6⟩ := row_at W.out L.out (k := kk) (by omega)
              rw [I.out.high (i + 1 + (j + 1)) (by omega), show (i + 1 + (j + 1)) * 2 = (i + 1) * 2 + (j + 1) * 2 by omega] at a1 a2
              rw [I.out.high (i + 1 + j) (by omega), show (i + 1 + j) * 2 = (i + 1) * 2 + j * 2 by omega] at a3 a4
              generalize hu : d.toArray[i + 1 + (j + 1)]! = u at a1 a2
              generalize hv : d.toArray[i + 1 + j]! = v at a3 a4
              generalize dk.toArray[kk]! = old at a5 a6
              have C := Lib.hid (And.intro hu hv)
              clear hu hv
              obtain ⟨u1, u2⟩ := u
              obtain ⟨v1, v2⟩ := v
              by_cases huv : u1 = v1 ∧ u2 = v2
              · obtain ⟨rfl, rfl⟩ := huv
                go_wp2_with fail
                go_quiet (fail)
                go_wp2
                go_roundw
                case rel => exact ⟨kk, j + 1, dk, rfl, by go_num, by omega, W.out, L.out, I.out.skip (keeps_neg (by omega) (by rw [C.out.1]; exact C.out.2.symm)), grown_drew G.out _⟩
                case measure => simp [intOf]; omega
              · have HK : Hid (CompInv d.toArray (i + 1 + (j + 1 + 1)) (kk + 1) (dk.set kk (u1, u2)).toArray) := by
                  have h1 := I.out.keep (by simp only [List.size_toArray]; rw [HN.out]; exact hlt2) (keeps_pos (by
                    rw [C.out.1]
                    intro e
                    have h2 := C.out.2
                    rw [show i + 1 + (j + 1) - 1 = i + 1 + j by omega] at e
                    rw [h2] at e
                    cases e
                    exact huv ⟨rfl, rfl⟩))
                  rw [C.out.1] at h1
                  have h3 : (dk.set kk (u1, u2)).toArray = dk.toArray.setIfInBounds kk (u1, u2) := by simp
                  rw [h3]
                  exact h1
                have HW : Hid (∀ q, ∃ V, V = ((wr.drewN q).setCell ⟨g, kk * 2, none⟩ (.int .u16 (u1 : Int))).setCell ⟨g, kk * 2 + 1, none⟩ (.int .u64 (u2 : Int)) ∧ V.ownsRow B 27 2 (.slice (some ⟨g, 0, none⟩) n cap) n (dv (dk.set kk (u1, u2))) ∧ w.grownBy V (some g)) := fun q => by
                  have h0 : (wr.drewN q).ownsRow B 27 2 (.slice (some ⟨g, 0, none⟩) n cap) n (dv dk) := W.out
                  obtain ⟨h1, g1⟩ := h0.stored (kk * 2) (.int .u16 (u1 : Int))
                  obtain ⟨h2, g2⟩ := h1.stored (kk * 2 + 1) (.int .u64 (u2 : Int))
                  exact ⟨_, rfl, by rw [dv_set]; exact h2, ((grown_drew G.out q).trans g1).trans g2⟩
                have hkn : kk < n := by omega
                have key : ((u1 : Int) == (v1 : Int)) = false ∨ (u1 = v1 ∧ ((u2 : Int) == (v2 : Int)) = false) := by
                  by_cases e : u1 = v1
                  · refine .inr ⟨e, ?_⟩; rw [beq_eq_false_iff_ne]; intro e2; exact huv ⟨e, by omega⟩
                  · refine .inl ?_; rw [beq_eq_false_iff_ne]; omega
                clear huv C hkk
                rcases key with k1 | ⟨rfl, k1⟩
                all_goals
                  go_wp2_with fail
                  go_quiet (fail)
                  go_wp2
                  go_roundw
                  case rel =>
                    obtain ⟨V, rfl, h1, h2⟩ := HW.out nq
                    exact ⟨kk + 1, j + 1, dk.set kk (u1, u2), by go_num, by go_num, by omega, h1, by rw [List.length_set]; exact L.out, HK.out, h2⟩
                  case measure => simp [intOf]; omega
            · have hend : i + 1 + (j + 1) = n := by omega
              have hkn : kk < n := by omega
              have hkc : kk < cap := Nat.lt_of_lt_of_le hkn HCap.out
              have hI := I.out
              rw [hend] at hI
              have HT := Lib.hid (comp_take hI (by rw [L.out]; omega))
              have HL := Lib.hid hI.len
              have hcl := fun ty => run_clear W.out hkn (cap - kk) ty
              obtain ⟨ys, hy1, hy2, hy3⟩ := own_cells (kk * 2) (Builtin.zeroCells #[.int .u16 0, .int .u64 0] (n - kk)).toList W.out
              have HY : Hid ((wr.setCells g (kk * 2) (Builtin.zeroCells #[.int .u16 0, .int .u64 0] (n - kk)).toList).ownsRow B 27 2 (.slice (some ⟨g, 0, none⟩) kk cap) kk (dv (compactUpTo d.toArray n))) := by
                have h1 := own_take hy1 (k := kk) (by omega)
                rw [hy2, dv_take, HT.out] at h1
                exact h1
              have HG := Lib.hid (G.out.trans hy3)
              clear hI hy1 hy2 hy3 hkk
              generalize wr.setCells g (kk * 2) (Builtin.zeroCells #[.int .u16 0, .int .u64 0] (n - kk)).toList = wz at hcl HY HG
              go_wp2
              go_ret
              exact ⟨kk, rfl, HL.out.symm, HY.out, HG.out⟩
        · have key : ((x1 : Int) == (y1 : Int)) = false ∨ (x1 = y1 ∧ ((x2 : Int) == (y2 : Int)) = false) := by
            by_cases e : x1 = y1
            · refine .inr ⟨e, ?_⟩; rw [beq_eq_false_iff_ne]; intro e2; exact hxy ⟨e, by omega⟩
            · refine .inl ?_; rw [beq_eq_false_iff_ne]; omega
          have HK : Hid (∀ j, j < i + 1 + 1 → keeps d.toArray j = true) := fun j hj => by
            by_cases e : j = i + 1
            · subst e
              refine keeps_pos ?_
              rw [BB.out.1, BB.out.2]
              intro e
              cases e
              exact hxy ⟨rfl, rfl⟩
            · exact A.out j (by omega)
          clear hxy hcap
          rcases key with k1 | ⟨rfl, k1⟩
          all_goals
            go_wp2_with fail
            go_quiet (fail)
            go_wp2
            go_roundw
            case rel => exact ⟨i + 1 + 1, _, by go_num, by omega, by omega, rfl, HK.out⟩
            case measure => simp [intOf]; omega
      · have e : compactUpTo d.toArray n = d := by
          obtain rfl : k = n := by omega
          rw [compactUpTo_all d.toArray k A.out]
          have := range_map_get d.toArray
          simp only [List.size_toArray, HN.out] at this
          rw [this]
        have E := Lib.hid e
        clear e
        go_wp2
        go_ret
        rw [E.out]
        exact ⟨n, rfl, HN.out.symm, H.out, ⟨rfl, rfl, rfl, Nat.le_refl _, fun _ _ _ => rfl⟩⟩
end Go.Proofs.Ytegclhgfibfanaa.Dt
