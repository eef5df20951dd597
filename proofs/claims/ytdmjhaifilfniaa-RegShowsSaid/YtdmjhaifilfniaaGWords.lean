/- Words for the claims of layer reg: slices of values in memory, and lists of texts of one's own. -/
import Derived.Test.YtdmjhaifilfniaaGPlain
import Derived.Test.YtdmjhaifilfniaaDApp
namespace Go.Proofs.Ytdmjhaifilfniaa.Rg
open Go.ChangeShapes Go.WideShapes Go.ChangeAt Go.RowKit
set_option linter.unusedVariables false

theorem block_add (a : Addr) (n : Nat) : (a.add n).block = a.block := Dt.block_add a n
theorem alloc_size (w : World) (o : Obj) : (w.alloc o).heap.size = w.heap.size + 1 := by simp
theorem below_new (w : World) (o : Obj) : Below w.heap.size w (w.alloc o) := (Below.refl _ _).alloc (Nat.le_refl _) o
theorem below_new2 (w : World) (o1 o2 : Obj) : Below w.heap.size w ((w.alloc o1).alloc o2) := (below_new w o1).alloc (below_new w o1).size o2
theorem bel_alloc {w W : World} (o : Obj) (h : Below w.heap.size w W) : Below w.heap.size w (W.alloc o) := h.alloc h.size o
theorem stays {W V : World} {a : Addr} {v : Value} (hb : Below W.heap.size W V) (h : W.cell? a = some v) : V.cell? a = some v := (hb.cell (World.block_lt_of_cell? W _ h)).trans h
/-- a value's three cells. -/
def vcells (x : Vl) : List Value := [.int .u16 (x.1.1 : Int), .int .u64 (x.1.2 : Int), .string x.2]
/-- a value. -/
abbrev vval (x : Vl) : Value := .agg #[.int .u16 (x.1.1 : Int), .int .u64 (x.1.2 : Int), .string x.2]
/-- a value's box. -/
abbrev vbox (x : Vl) : Obj := .cells #[.int .u16 (x.1.1 : Int), .int .u64 (x.1.2 : Int), .string x.2] 29
def vv (l : List Vl) : List Value := l.flatMap vcells
theorem vv_append (l m : List Vl) : vv (l ++ m) = vv l ++ vv m := by unfold vv; rw [List.flatMap_append]
theorem vv_length (l : List Vl) : (vv l).length = l.length * 3 := by
  induction l with
  | nil => rfl
  | cons r l ih => simp only [vv, vcells, List.flatMap_cons, List.length_append, List.length_cons, List.length_nil] at ih ⊢; omega
theorem vv_get {l : List Vl} {k : Nat} {r : Vl} (h : l[k]? = some r) (j : Nat) (hj : j < 3) : (vv l)[k * 3 + j]? = (vcells r)[j]? := by
  induction l generalizing k with
  | nil => simp at h
  | cons x l ih =>
    have e : vv (x :: l) = vcells x ++ vv l := rfl
    have el : (vcells x).length = 3 := rfl
    cases k with
    | zero =>
      obtain rfl : x = r := by simpa using h
      rw [e, Nat.zero_mul, Nat.zero_add, List.getElem?_append_left (by rw [el]; exact hj)]
    | succ k =>
      rw [e, List.getElem?_append_right (by rw [el]; omega), el, show (k + 1) * 3 + j - 3 = k * 3 + j by omega]
      exact ih (by simpa using h)
theorem vv_one (l : List Vl) : ∀ u ∈ vv l, u.oneCell' = true := by
  intro u hu
  obtain ⟨r, _, h⟩ := List.mem_flatMap.1 hu
  simp only [vcells, List.mem_cons, List.not_mem_nil, or_false] at h
  rcases h with rfl | rfl | rfl <;> rfl
/-- the numbers and the text of a value fit. -/
structure FitV (x : Vl) : Prop where
  dev : x.1.1 < 65536
  num : x.1.2 < 18446744073709551616
  txt : Kd.Short x.2
/-- a slice of the address A that holds these values, all below block B. -/
structure ValsAt (w : World) (B : Nat) (A : Option Addr) (l : List Vl) (n c : Nat) : Prop where
  len : l.length = n
  nil : A = none → n = 0 ∧ c = 0
  cap : n ≤ c
  max : c ≤ 9223372036854775807
  wide : n ≤ 4398046511104
  fit : ∀ x ∈ l, FitV x
  cells : Dt.Lies w B A (vv l)
theorem ValsAt.below {w W : World} {B : Nat} {A : Option Addr} {l : List Vl} {n c : Nat} (h : ValsAt w B A l n c) (hb : Below B w W) : ValsAt W B A l n c := ⟨h.len, h.nil, h.cap, h.max, h.wide, h.fit, h.cells.below hb⟩
theorem ValsAt.more {w : World} {B B' : Nat} {A : Option Addr} {l : List Vl} {n c : Nat} (h : ValsAt w B A l n c) (hB : B ≤ B') : ValsAt w B' A l n c := ⟨h.len, h.nil, h.cap, h.max, h.wide, h.fit, h.cells.more hB⟩
theorem ValsAt.up {w W : World} {A : Option Addr} {l : List Vl} {n c : Nat} (h : ValsAt w w.heap.size A l n c) (hb : Below w.heap.size w W) : ValsAt W W.heap.size A l n c := (h.below hb).more hb.size
theorem ValsAt.none_ (w : World) (B : Nat) : ValsAt w B none [] 0 0 := ⟨rfl, fun _ => ⟨rfl, rfl⟩, Nat.le_refl _, by decide, by decide, fun s hs => (by cases hs), Dt.Lies.none_ _ _ _⟩
/-- a value's cells at an address, as a walk reads them. -/
structure CellsV (w : World) (a : Addr) (x : Vl) : Prop where
  c0 : w.cell? a = some (.int .u16 (x.1.1 : Int))
  c1 : w.cell? ⟨a.block, a.off + 1, none⟩ = some (.int .u64 (x.1.2 : Int))
  c2 : w.cell? ⟨a.block, a.off + 2, none⟩ = some (.string x.2)
theorem CellsV.kept {w W : World} {a : Addr} {x : Vl} (h : CellsV w a x) (hb : Below w.heap.size w W) : CellsV W a x := ⟨stays hb h.c0, stays hb h.c1, stays hb h.c2⟩
theorem add_eq (a : Addr) (n k : Nat) (hk : 0 < k) : (⟨(a.add n).block, (a.add n).off + k, none⟩ : Addr) = a.add (n + k) := by
  rw [← Dt.add_add]
  show _ = Addr.add (a.add n) k
  rw [show (a.add n).add k = if k = 0 then a.add n else ⟨(a.add n).block, (a.add n).off + k, none⟩ from rfl, if_neg (by omega)]
theorem ValsAt.at_ {w : World} {B : Nat} {A : Option Addr} {l : List Vl} {n c : Nat} (h : ValsAt w B A l n c) {k : Nat} (hk : k < n) :
    ∃ (ad : Addr) (x : Vl), A = some ad ∧ ad.block < B ∧ l[k]? = some x ∧ FitV x ∧ CellsV w (ad.add (k * 3)) x := by
  have hkl : k < l.length := by rw [h.len]; exact hk
  have hx := List.getElem?_eq_getElem hkl
  obtain ⟨ad, e, hB, hc⟩ := h.cells (by rw [vv_length]; omega)
  have g := fun j hj => vv_get hx j hj
  refine ⟨ad, l[k], e, hB, hx, h.fit _ (List.getElem_mem _), ⟨hc _ _ (g 0 (by omega)), ?_, ?_⟩⟩
  · rw [add_eq _ _ _ (by omega)]; exact hc _ _ (g 1 (by omega))
  · rw [add_eq _ _ _ (by omega)]; exact hc _ _ (g 2 (by omega))
/-- what a value's own box holds, in every world that keeps it. -/
theorem vbox_new (w : World) (x : Vl) (V : World) (hb : Below (w.heap.size + 1) (w.alloc (vbox x)) V) : CellsV V ⟨w.heap.size, 0, none⟩ x :=
  ⟨(hb.cell (Nat.lt_succ_self _)).trans (by rw [World.cell?_alloc_mark]; rfl), (hb.cell (p := ⟨w.heap.size, 1, none⟩) (Nat.lt_succ_self _)).trans (by rw [World.cell?_alloc_mark]; rfl), (hb.cell (p := ⟨w.heap.size, 2, none⟩) (Nat.lt_succ_self _)).trans (by rw [World.cell?_alloc_mark]; rfl)⟩
theorem CellsV.zero {w : World} {g : Nat} {x : Vl} (h : CellsV w ⟨g, 0, none⟩ x) : w.cell? ⟨g, 0, none⟩ = some (.int .u16 (x.1.1 : Int)) ∧ w.cell? ⟨g, 1, none⟩ = some (.int .u64 (x.1.2 : Int)) ∧ w.cell? ⟨g, 2, none⟩ = some (.string x.2) := by
  have h1 := h.c1
  have h2 := h.c2
  simp only [Nat.zero_add] at h1 h2
  exact ⟨h.c0, h1, h2⟩

/-! ### Lists of texts of one's own -/
theorem tv_append (l m : List ByteArray) : Kd.tv (l ++ m) = Kd.tv l ++ Kd.tv m := by unfold Kd.tv; rw [List.map_append]
theorem tv_one (l : List ByteArray) : ∀ u ∈ Kd.tv l, u.oneCell' = true := by
  intro u hu
  obtain ⟨s, _, rfl⟩ := List.mem_map.1 hu
  rfl
theorem str_info : (Try.prog.info? 9).map (fun i => (i.zero, i.size, i.bytes)) = some (some (.string ⟨#[]⟩), 1, 16) := by kernel_rfl
theorem run_text (w : World) (B k : Nat) (v : Value) (xs : List ByteArray) (A : Option Addr) (m : List ByteArray) (n c : Nat) (ho : w.ownsRow B 9 1 v k (Kd.tv xs)) (hA : A = none → n = 0 ∧ c = 0) (hb : Dt.Lies w w.heap.size A (Kd.tv m)) (hl : m.length = n)
    (hn : k + n ≤ 8796093022208) (hB : B ≤ w.heap.size) :
    ∃ A' c' w', (Builtin.append_ #[33, 33] 33 #[v, .slice A n c]).run Try.prog w = .ok (.slice A' (k + n) c') w' ∧
      w'.ownsRow B 9 1 (.slice A' (k + n) c') (k + n) (Kd.tv (xs ++ m)) ∧ w.grownBy w' v.ownBlock := by
  obtain ⟨i0, hi0, hz0, hz1, hz2⟩ := info_parts str_info
  cases A with
  | none =>
    obtain ⟨rfl, rfl⟩ := hA rfl
    obtain rfl := List.eq_nil_of_length_eq_zero hl
    obtain ⟨A', c', rfl⟩ := Dt.own_form ho
    exact ⟨A', c', w, run_append_owned_none (P := Try.prog) (w := w) B 33 33 9 i0 1 Try.underlying33 hi0 _ k (Kd.tv xs) ho, by rw [List.append_nil]; exact ho, Dt.turn_refl _ _⟩
  | some ad =>
    have hc : ∀ j u, (Kd.tv m)[j]? = some u → w.cell? (ad.add j) = some u := by
      intro j u hu
      have hjl : j < (Kd.tv m).length := (List.getElem?_eq_some_iff.1 hu).1
      obtain ⟨ad', e, hadb, hc⟩ := hb (by omega)
      obtain rfl := Option.some.inj e
      exact hc j u hu
    obtain ⟨v', w', hr, h2, h3, hat, h5⟩ := run_append_own_at (P := Try.prog) w B 33 33 9 i0 (.string ⟨#[]⟩) 1 16 Try.underlying33 hi0 hz0 hz1 hz2 rfl (by decide) v k (Kd.tv xs) ho ad n c (Kd.tv m) (by rw [Kd.tv_length, hl, Nat.mul_one]) hc (tv_one m) (by simp only [maxLen]; omega) (by omega) hB
    obtain ⟨A', c', rfl⟩ := Dt.own_form h2
    exact ⟨A', c', w', hr, by rw [tv_append]; exact h2, h3⟩
theorem wpList_text {ops : Array Oper} {rest : List Oper} {o : Oper} {a : Act} {Q : Exit → Act → World → Prop} (hgd : o.guard = none) (s x : Operand) (ho : o.op = .call { callee := .builtin .append, args := #[s, x], argTypes := #[33, 33] }) (hty : o.type = 33)
    (w : World) (B k : Nat) (v : Value) (xs : List ByteArray) (A : Option Addr) (m : List ByteArray) (n c : Nat) (hs : a.eval s = v) (hx : a.eval x = .slice A n c) (hw : w.ownsRow B 9 1 v k (Kd.tv xs)) (hA : A = none → n = 0 ∧ c = 0) (hb : Dt.Lies w w.heap.size A (Kd.tv m)) (hl : m.length = n)
    (hn : k + n ≤ 8796093022208) (hB : B ≤ w.heap.size)
    (hK : ∀ A' c' w', w'.ownsRow B 9 1 (.slice A' (k + n) c') (k + n) (Kd.tv (xs ++ m)) → w.grownBy w' v.ownBlock → wpList Try.prog ops Q rest (a.put o.dst (.slice A' (k + n) c')) w') : wpList Try.prog ops Q (o :: rest) a w := by
  refine wpList_plain hgd fun K hQ => ?_
  obtain ⟨A', c', w', hr, h2, h3⟩ := run_text w B k v xs A m n c hw hA hb hl hn hB
  rw [← hty] at hr
  unfold Oper.wp execOp
  simp only [ho, resolve, invoke, builtin, Sem.run_bind, Sem.run_pure, Result.andThen_ok, List.map_toArray, List.map_cons, List.map_nil, hs, hx]
  rw [hty] at hr ⊢
  rw [hr]
  exact hQ _ _ (hK _ _ _ h2 h3)
/-- a list of one's own has grown: what lay, lies. -/
theorem text_grown {w wr w2 : World} {v : Value} {m : Nat} {xs : List Value} (ho : wr.ownsRow w.heap.size 9 1 v m xs) (hb : Below w.heap.size w wr) (hg : wr.grownBy w2 v.ownBlock) : Below w.heap.size w w2 :=
  hb.grown hg hb.size (fun k hk => (ho.lt k hk).1)
/-- a new block that is one text. -/
theorem lies_text (V : World) (s : ByteArray) : Dt.Lies (V.alloc (.cells #[.string s] 9)) (V.alloc (.cells #[.string s] 9)).heap.size (some ⟨V.heap.size, 0, none⟩) (Kd.tv [s]) := fun _ => by
  refine ⟨_, rfl, by rw [alloc_size]; exact Nat.lt_succ_self _, fun j u hu => ?_⟩
  rw [Dt.zero_add, World.cell?_alloc_new]
  have e : Kd.tv [s] = [.string s] := rfl
  rw [e] at hu
  simpa using hu
/-- a slice of its own: no block below B. -/
def NewT (B : Nat) (A : Option Addr) (n : Nat) : Prop := ∀ ad, A = some ad → 0 < n → B ≤ ad.block
theorem NewT.less {B B' : Nat} {A : Option Addr} {n : Nat} (h : NewT B A n) (hB : B' ≤ B) : NewT B' A n := fun ad e hn => Nat.le_trans hB (h ad e hn)
theorem own_new {w : World} {B n c : Nat} {A : Option Addr} {xs : List Value} (h : w.ownsRow B 9 1 (.slice A n c) n xs) : NewT B A n := fun ad e hn => by
  obtain ⟨g, cap, e2, hg⟩ := Dt.own_shape (w := w) h (.inl hn)
  cases e2
  cases e
  exact hg
/-- texts are as they were behind a store into another block. -/
theorem texts_set {w : World} {C : Nat} {A : Option Addr} {l : List ByteArray} {n c : Nat} (h : Kd.TextsAt w C A l n c) {q : Addr} (hq : ∀ ad, A = some ad → 0 < n → ad.block ≠ q.block) (u : Value) : Kd.TextsAt (w.setCell q u) C A l n c := by
  refine ⟨h.len, h.nil, h.cap, h.max, h.wide, h.fit, fun hl => ?_⟩
  obtain ⟨ad, e, hC, hc⟩ := h.cells hl
  refine ⟨ad, e, hC, fun j x hx => (World.cell?_setCell_far _ _ _ _ ?_).trans (hc j x hx)⟩
  rw [block_add]
  exact fun e2 => hq ad e (by rw [← h.len, ← Kd.tv_length]; exact hl) e2.symm
/-- texts come out. -/
def TextPost (w : World) (l : List ByteArray) (e : Ending) (w' : World) : Prop := ∃ A n c, e = .returned (.slice A n c) ∧ Kd.TextsAt w' w'.heap.size A l n c ∧ NewT w.heap.size A n ∧ Below w.heap.size w w'
theorem own_texts {w : World} {B n c : Nat} {A : Option Addr} {l : List ByteArray} (h : w.ownsRow B 9 1 (.slice A n c) n (Kd.tv l)) (hl : l.length = n) (hf : ∀ s ∈ l, Kd.Short s) (hw : n ≤ 8796093022208) : Kd.TextsAt w w.heap.size A l n c := by
  obtain ⟨h1, h2, h3⟩ := Dt.own_len h
  exact ⟨hl, h3, h1, h2, hw, hf, Dt.lies_any (by decide) h⟩
end Go.Proofs.Ytdmjhaifilfniaa.Rg
