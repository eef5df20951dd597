/- Slices of bytes as the claims of layer seal take them; the law's 'equal', slices.Equal and slices.Clone; appends to a new list. For every slice of bytes. -/
import Derived.Test.YtjipeiigcoipjaaDoorCrc
import Derived.Laws.OwnMore
import Derived.OwnWalk
import Derived.Laws.CopyOwn
import Derived.Laws.AppendOwnNone
import Derived.Maps.AppendAt
import Derived.Lib.SliceRun
import Derived.Deep.AppendLies
import Derived.Lib.AppendZeros
import Derived.BigQuiet
import Derived.Deep.QuietTactic
namespace Go.Proofs.YtjipeiigcoipjaaDoor.Se
open Go.ChangeShapes Go.WideShapes Go.ChangeAt Go.RowKit
set_option linter.unusedVariables false

theorem ret_bool {a b : Bool} (h : a = b) : Ending.returned (.bool a) = .returned (.bool b) := by rw [h]

theorem add_add (a : Addr) (m n : Nat) : (a.add m).add n = a.add (m + n) := by
  unfold Addr.add
  by_cases h1 : m = 0
  · subst h1; simp
  · by_cases h2 : n = 0
    · subst h2; simp
    · have h3 : ¬ m + n = 0 := by omega
      simp [h1, h2, Nat.add_assoc]
theorem Bytes.up {w W : World} {A : Option Addr} {l : List Nat} (h : Bytes w w.heap.size A l) (hb : Below w.heap.size w W) : Bytes W W.heap.size A l := (h.below hb).more hb.size
theorem small_drop {l : List Nat} (h : Crc.Small l) (k : Nat) : Crc.Small (l.drop k) := fun x hx => h x (List.mem_of_mem_drop hx)
theorem small_append {l m : List Nat} (h : Crc.Small l) (k : Crc.Small m) : Crc.Small (l ++ m) := fun x hx => (List.mem_append.1 hx).elim (h x) (k x)
theorem Bytes.take {w : World} {B : Nat} {A : Option Addr} {l : List Nat} (h : Bytes w B A l) (k : Nat) : Bytes w B A (l.take k) :=
  ⟨small_take h.1 k, fun hl => by
    obtain ⟨ad, e, hb, hc⟩ := h.2 (by simp at hl; omega)
    refine ⟨ad, e, hb, fun j x hx => hc j x ?_⟩
    rw [List.getElem?_take] at hx
    split at hx
    · exact hx
    · cases hx⟩
theorem Bytes.drop {w : World} {B : Nat} {ad : Addr} {l : List Nat} (h : Bytes w B (some ad) l) (k : Nat) : Bytes w B (some (ad.add k)) (l.drop k) :=
  ⟨small_drop h.1 k, fun hl => by
    obtain ⟨ad', e, hb, hc⟩ := h.2 (by simp at hl; omega)
    obtain rfl := Option.some.inj e
    refine ⟨_, rfl, by rw [block_add]; exact hb, fun j x hx => ?_⟩
    rw [add_add]
    exact hc (k + j) x (by rwa [List.getElem?_drop] at hx)⟩
theorem Bytes.empty {w : World} {B : Nat} {A : Option Addr} {l : List Nat} (hl : l.length = 0) : Bytes w B A l := by
  obtain rfl := List.eq_nil_of_length_eq_zero hl
  exact Bytes.none_ _ _ _
theorem below_drewN (B : Nat) (w : World) (n : Nat) : Below B w (w.drewN n) := ⟨rfl, rfl, rfl, Nat.le_refl _, fun _ _ => rfl⟩

/-- bytes as cells. -/
def vals (l : List Nat) : List Value := l.map fun x : Nat => Value.int .u8 (x : Int)
theorem vals_length (l : List Nat) : (vals l).length = l.length := by unfold vals; simp
theorem vals_get (l : List Nat) (j : Nat) : (vals l)[j]? = l[j]?.map fun x : Nat => Value.int .u8 (x : Int) := by unfold vals; simp
theorem vals_append (l m : List Nat) : vals (l ++ m) = vals l ++ vals m := by unfold vals; rw [List.map_append]
theorem vals_one (l : List Nat) : ∀ u ∈ vals l, u.oneCell' = true := by
  intro u hu
  obtain ⟨x, _, rfl⟩ := List.mem_map.1 hu
  rfl
theorem zero_add (g j : Nat) : (⟨g, 0, none⟩ : Addr).add j = ⟨g, j, none⟩ := by
  unfold Addr.add; split
  · rename_i hz; rw [hz]
  · simp
theorem bytes_own {w : World} {B g n cap : Nat} {m : List Nat} (h : w.ownsRow B 5 1 (.slice (some ⟨g, 0, none⟩) n cap) n (vals m)) (hs : Crc.Small m) : Bytes w w.heap.size (some ⟨g, 0, none⟩) m := by
  have hl : m.length = n := by have := h.1; rw [vals_length] at this; omega
  refine ⟨hs, fun _ => ⟨_, rfl, (h.lt g rfl).2, fun j x hj => ?_⟩⟩
  have hjl : j < m.length := (List.getElem?_eq_some_iff.1 hj).1
  rw [zero_add, h.cellAt j (by omega), vals_get, hj]; rfl
/-- bytes in a new block. -/
theorem bytes_new (w : World) (m : List Nat) (cs : Array Value) (hcs : cs = (vals m).toArray) (hs : Crc.Small m) (t : TypeId) : Bytes (w.alloc (.cells cs t)) (w.heap.size + 1) (some ⟨w.heap.size, 0, none⟩) m := by
  subst hcs
  refine ⟨hs, fun _ => ⟨_, rfl, Nat.lt_succ_self _, fun j x hj => ?_⟩⟩
  rw [zero_add, World.cell?_alloc_new]
  simp only [List.getElem?_toArray, vals_get, hj]; rfl

/-- the string of a slice of bytes. -/
theorem conv {w : World} {B : Nat} {A : Option Addr} {l : List Nat} (h : Bytes w B A l) (n c : Nat) (hn : l.length = n) : (convert 22 9 (.slice A n c)).run Tryd.prog w = .ok (.string (Crc.str l)) w := by
  subst hn
  cases A with
  | none =>
    have hl : l.length = 0 := by
      rcases Nat.eq_zero_or_pos l.length with h0 | h0
      · exact h0
      · obtain ⟨ad, e, _⟩ := h.2 h0; cases e
    obtain rfl := List.eq_nil_of_length_eq_zero hl
    exact run_convert_bytes_nil w 22 5 Tryd.underlying22 Tryd.underlying5 _ _ 9 Tryd.underlying9
  | some ad =>
    have hl : (loadCells ad l.length).run Tryd.prog w = .ok ((l.map fun x : Nat => (x : Int)).map (Value.int .u8)).toArray w := by
      have := run_loadCells_list (P := Tryd.prog) w ad ((l.map fun x : Nat => (x : Int)).map (Value.int .u8)) (fun j v hj => by
        have hjl : j < l.length := by
          have := (List.getElem?_eq_some_iff.1 hj).1
          simpa using this
        obtain ⟨ad', e, _, hc⟩ := h.2 (by omega)
        obtain rfl := Option.some.inj e
        rw [hc j l[j] (List.getElem?_eq_getElem hjl)]
        simp [List.getElem?_eq_getElem hjl] at hj
        rw [hj])
      simpa using this
    rw [run_convert_bytes_string w 22 9 5 _ _ c Tryd.underlying22 Tryd.underlying5 Tryd.underlying9, run_bytesToString w _ _ c _ hl, foldl_push_bytes]
    simp [Crc.str, strOfNums, ByteArray.empty, ByteArray.emptyWithCapacity]
    rfl

theorem equal_any (w : World) (B1 B2 : Nat) (A1 A2 : Option Addr) (l1 l2 : List Nat) (n1 n2 c1 c2 : Nat) (e1 : l1.length = n1) (e2 : l2.length = n2) (h1 : Bytes w B1 A1 l1) (h2 : Bytes w B2 A2 l2) :
    Calls Tryd.prog 8 #[.slice A1 n1 c1, .slice A2 n2 c2] w fun e w' => e = .returned (.bool (decide (l1 = l2))) ∧ w = w' := by
  have k1 := conv h1 n1 c1 e1
  have k2 := conv h2 n2 c2 e2
  have k3 := Lib.hid (Crc.str_eql h1.1 h2.1)
  clear h1 h2 e1 e2
  go_enter Tryd.func8, Tryd.ntmps8
  go_wp2
  go_ret
  exact ⟨ret_bool k3.out, rfl⟩

theorem byte_info : (Tryd.prog.info? 5).map (fun i => (i.zero, i.size, i.bytes)) = some (some (.int .u8 0), 1, 1) := by kernel_rfl
theorem byte_size : (Tryd.prog.info? 5).map (·.size) = some 1 := by kernel_rfl

/-- a call that answers a new list of these bytes. -/
def AppPost (w : World) (m : List Nat) (e : Ending) (w' : World) : Prop :=
  ∃ g cap n, e = .returned (.slice (some ⟨g, 0, none⟩) n cap) ∧ m.length = n ∧ w.heap.size ≤ g ∧ w'.ownsRow w.heap.size 5 1 (.slice (some ⟨g, 0, none⟩) n cap) n (vals m) ∧ Below w.heap.size w w'

/-- what a step of the list leaves. -/
theorem own_shape {w w1 : World} {B n : Nat} {v1 : Value} {xs : List Value} (hown : w1.ownsRow B 5 1 v1 n xs) (hn : 0 < n ∨ ¬ v1 = .slice none 0 0) : ∃ g cap, v1 = .slice (some ⟨g, 0, none⟩) n cap ∧ B ≤ g := by
  rcases hown.2 with ⟨h, hz⟩ | ⟨g, cap, _, e, hg, _⟩
  · rcases hn with hn | hn
    · omega
    · exact absurd h hn
  · exact ⟨g, cap, e, hg⟩

theorem cell_one (w : World) (x : Value) (t : TypeId) : ∀ (j : Nat) (u : Value), [x][j]? = some u → (w.alloc (.cells #[x] t)).cell? ((⟨w.heap.size, 0, none⟩ : Addr).add j) = some u := by
  intro j u hu
  cases j with
  | zero =>
    rw [zero_add, World.cell?_alloc_new]
    simpa using hu
  | succ j => simp at hu

theorem turn_refl (w : World) (row : Option Nat) : w.grownBy w row := ⟨rfl, rfl, rfl, Nat.le_refl _, fun _ _ _ => rfl⟩
theorem turn_drewN (w : World) (n : Nat) (row : Option Nat) : w.grownBy (w.drewN n) row := ⟨rfl, rfl, rfl, Nat.le_refl _, fun _ _ _ => rfl⟩
theorem turn_set (w : World) (g i : Nat) (u : Value) : w.grownBy (w.setCell ⟨g, i, none⟩ u) (some g) :=
  ⟨rfl, rfl, rfl, by simp [World.setCell], fun k _ hne => Below.heap_setCell w ⟨g, i, none⟩ u k (fun e => hne (by rw [e]))⟩
theorem turn_below {w w' : World} (h : Below w.heap.size w w') (row : Option Nat) : w.grownBy w' row := ⟨h.os, h.tape, h.output, h.size, fun i hi _ => h.block i hi⟩
theorem Bytes.kept {w w' : World} {B : Nat} {A : Option Addr} {l : List Nat} {row : Option Nat} (h : Bytes w B A l) (hg : w.grownBy w' row) (hB : B ≤ w.heap.size) (hr : ∀ k, row = some k → B ≤ k) : Bytes w' B A l :=
  h.below ((Below.refl B w).grown hg hB hr)

theorem run_nil (w : World) (a : Option Addr) (n c : Nat) : (binOp .eql 22 (.slice a n c) (.slice none 0 0)).run Tryd.prog w = .ok (.bool a.isNone) w := Lib.run_eql_slice_nil w _ _ a n c 0 0 Tryd.underlying22
/-- a copy: nil, or a new list of the same bytes. -/
def ClonePost (w : World) (m : List Nat) (r : Ending) (w' : World) : Prop :=
  ∃ A n c, r = .returned (.slice A n c) ∧ m.length = n ∧ Bytes w' w'.heap.size A m ∧ n ≤ c ∧ c ≤ 9223372036854775807 ∧ (A = none → c = 0) ∧ Below w.heap.size w w' ∧ w'.ownsRow w.heap.size 5 1 (.slice A n c) n (vals m)
theorem clone_any (w : World) (A : Option Addr) (l : List Nat) (n c : Nat) (hn : l.length = n) (hA : A = none → n = 0 ∧ c = 0) (hb : Bytes w w.heap.size A l) (hl : n ≤ 140737488355328) :
    Calls Tryd.prog 19 #[.slice A n c] w (ClonePost w l) := by
  obtain ⟨i0, hi0, hz0, hz1, hz2⟩ := info_parts byte_info
  have hB := Lib.hid hb
  have HN := Lib.hid hn
  clear hb hn
  cases A with
  | none =>
    obtain ⟨rfl, rfl⟩ := hA rfl
    have hnil := run_nil w none 0 0
    go_enter Tryd.func19, Tryd.ntmps19
    go_wp2
    go_ret
    exact ⟨none, 0, 0, rfl, HN.out, by rw [List.eq_nil_of_length_eq_zero HN.out]; exact Bytes.none_ _ _ _, Nat.le_refl _, by omega, fun _ => rfl, Below.refl _ _, by rw [List.eq_nil_of_length_eq_zero HN.out]; exact World.ownsRow_nil _ _ _ _⟩
  | some ad =>
    clear hA
    have hnil := run_nil w (some ad) n c
    have HC : Hid (∀ j u, (vals l)[j]? = some u → (w.alloc (.cells #[] 5)).cell? (ad.add j) = some u) := by
      intro j u hu
      rw [vals_get] at hu
      obtain ⟨x, hx, rfl⟩ := Option.map_eq_some_iff.1 hu
      have hjl : j < l.length := (List.getElem?_eq_some_iff.1 hx).1
      obtain ⟨ad', e, hadb, hc⟩ := hB.out.2 (by omega)
      obtain rfl := Option.some.inj e
      exact (World.cell?_alloc_lt _ _ _ (by rw [block_add]; exact hadb)).trans (hc j x hx)
    go_enter Tryd.func19, Tryd.ntmps19
    go_wp2_with (
      (at_builtin
       refine wpList_append_own _ rfl (.tmp 5) (.tmp 6) 22 rfl w.heap.size 5 i0 (.int .u8 0) 1 1 Tryd.underlying22 hi0 hz0 hz1 hz2 rfl (by decide) (.slice (some ⟨w.heap.size, 0, none⟩) 0 0) 0 [] rfl (World.ownsRow_lit w #[] 0 (Nat.le_refl _) (by simp [maxLen]) rfl) ad n c (vals l) rfl (by rw [vals_length, HN.out, Nat.mul_one]) HC.out (vals_one l) (by simp only [maxLen]; omega) (by omega) (by simp) ?_
       intro v1 w2 hown1 hg1 hat1))
    simp only [Nat.zero_add, List.nil_append] at hown1
    obtain ⟨g0, cap0, rfl, hgw0⟩ := own_shape (w := w) hown1 (.inr (fun h => by simp at hat1; exact hat1 h))
    have hbel : Below w.heap.size w w2 := (below_new w _).grown hg1 (by simp) (fun k hk => by simp [Value.ownBlock] at hk; omega)
    have HO := Lib.hid hown1
    have HB := Lib.hid hbel
    clear hown1 hg1 hat1 hbel HC
    go_wp2
    go_ret
    refine ⟨some ⟨g0, 0, none⟩, n, cap0, rfl, HN.out, bytes_own HO.out hB.out.1, ?_, ?_, fun h => (by cases h), HB.out, HO.out⟩
    · rcases HO.out.2 with ⟨h, _⟩ | ⟨_, _, _, h, _, _, h1, _⟩
      · cases h
      · cases h; exact h1
    · rcases HO.out.2 with ⟨h, _⟩ | ⟨_, _, _, h, _, _, _, h1, _⟩
      · cases h
      · cases h; exact h1
/-- append of any bytes to a new list without one. -/
theorem run_out (w : World) (B h : Nat) (A : Option Addr) (m : List Nat) (n c : Nat) (ho : w.ownsRow B 5 1 (.slice (some ⟨h, 0, none⟩) 0 0) 0 []) (hA : A = none → n = 0 ∧ c = 0) (hb : Bytes w w.heap.size A m) (hl : m.length = n)
    (hn : n ≤ 140737488355328) (hB : B ≤ w.heap.size) :
    ∃ g2 cap2 w', (Builtin.append_ #[22, 22] 22 #[.slice (some ⟨h, 0, none⟩) 0 0, .slice A n c]).run Tryd.prog w = .ok (.slice (some ⟨g2, 0, none⟩) n cap2) w' ∧
      w'.ownsRow B 5 1 (.slice (some ⟨g2, 0, none⟩) n cap2) n (vals m) ∧ w.grownBy w' (some h) ∧ B ≤ g2 := by
  obtain ⟨i0, hi0, hz0, hz1, hz2⟩ := info_parts byte_info
  cases A with
  | none =>
    obtain ⟨rfl, rfl⟩ := hA rfl
    obtain rfl := List.eq_nil_of_length_eq_zero hl
    exact ⟨h, 0, w, run_append_owned_none (P := Tryd.prog) (w := w) B 22 22 5 i0 1 Tryd.underlying22 hi0 _ 0 [] ho, ho, turn_refl _ _, (ho.lt h rfl).1⟩
  | some ad =>
    have hc : ∀ j u, (vals m)[j]? = some u → w.cell? (ad.add j) = some u := by
      intro j u hu
      rw [vals_get] at hu
      obtain ⟨x, hx, rfl⟩ := Option.map_eq_some_iff.1 hu
      have hjl : j < m.length := (List.getElem?_eq_some_iff.1 hx).1
      obtain ⟨ad', e, hadb, hc⟩ := hb.2 (by omega)
      obtain rfl := Option.some.inj e
      exact hc j x hx
    obtain ⟨v', w', hr, h2, h3, hat, h5⟩ := run_append_own_at (P := Tryd.prog) w B 22 22 5 i0 (.int .u8 0) 1 1 Tryd.underlying22 hi0 hz0 hz1 hz2 rfl (by decide) _ 0 [] ho ad n c (vals m) (by rw [vals_length, hl, Nat.mul_one]) hc (vals_one m) (by simp only [maxLen]; omega) (by omega) hB
    simp only [Nat.zero_add, List.nil_append] at h2
    obtain ⟨g2, cap2, rfl, hg2⟩ := own_shape (w := w) h2 (.inr (fun h => by simp at hat; exact hat h))
    exact ⟨g2, cap2, w', hr, h2, h3, hg2⟩
theorem wp_out {o : Oper} {a : Act} {K : Act → World → Prop} {Q : Exit → Act → World → Prop} (s x : Operand) (ho : o.op = .call { callee := .builtin .append, args := #[s, x], argTypes := #[22, 22] }) (hty : o.type = 22)
    (w : World) (B h : Nat) (A : Option Addr) (m : List Nat) (n c : Nat) (hs : a.eval s = .slice (some ⟨h, 0, none⟩) 0 0) (hx : a.eval x = .slice A n c) (hw : w.ownsRow B 5 1 (.slice (some ⟨h, 0, none⟩) 0 0) 0 []) (hA : A = none → n = 0 ∧ c = 0) (hb : Bytes w w.heap.size A m) (hl : m.length = n)
    (hn : n ≤ 140737488355328) (hB : B ≤ w.heap.size)
    (hK : ∀ g2 cap2 w', w'.ownsRow B 5 1 (.slice (some ⟨g2, 0, none⟩) n cap2) n (vals m) → w.grownBy w' (some h) → B ≤ g2 → K (a.put o.dst (.slice (some ⟨g2, 0, none⟩) n cap2)) w') : o.wp Tryd.prog a w K Q := by
  obtain ⟨g2, cap2, w', hr, h2, h3, h4⟩ := run_out w B h A m n c hw hA hb hl hn hB
  rw [← hty] at hr
  unfold Oper.wp execOp
  simp only [ho, resolve, invoke, builtin, Sem.run_bind, Sem.run_pure, Result.andThen_ok, List.map_toArray, List.map_cons, List.map_nil, hs, hx]
  rw [hty] at hr ⊢
  rw [hr]
  exact hK _ _ _ h2 h3 h4
theorem wpList_out {ops : Array Oper} {rest : List Oper} {o : Oper} {a : Act} {Q : Exit → Act → World → Prop} (hgd : o.guard = none) (s x : Operand) (ho : o.op = .call { callee := .builtin .append, args := #[s, x], argTypes := #[22, 22] }) (hty : o.type = 22)
    (w : World) (B h : Nat) (A : Option Addr) (m : List Nat) (n c : Nat) (hs : a.eval s = .slice (some ⟨h, 0, none⟩) 0 0) (hx : a.eval x = .slice A n c) (hw : w.ownsRow B 5 1 (.slice (some ⟨h, 0, none⟩) 0 0) 0 []) (hA : A = none → n = 0 ∧ c = 0) (hb : Bytes w w.heap.size A m) (hl : m.length = n)
    (hn : n ≤ 140737488355328) (hB : B ≤ w.heap.size)
    (hK : ∀ g2 cap2 w', w'.ownsRow B 5 1 (.slice (some ⟨g2, 0, none⟩) n cap2) n (vals m) → w.grownBy w' (some h) → B ≤ g2 → wpList Tryd.prog ops Q rest (a.put o.dst (.slice (some ⟨g2, 0, none⟩) n cap2)) w') : wpList Tryd.prog ops Q (o :: rest) a w :=
  wpList_plain hgd fun _ hQ => wp_out s x ho hty w B h A m n c hs hx hw hA hb hl hn hB fun g2 cap2 w' h2 h3 h4 => hQ _ _ (hK g2 cap2 w' h2 h3 h4)
theorem step_out {ops : Array Oper} {o : Oper} {a : Act} {K : Act → World → Prop} {Q : Exit → Act → World → Prop} {E : Prop} (hgd : o.guard = none) (s x : Operand) (ho : o.op = .call { callee := .builtin .append, args := #[s, x], argTypes := #[22, 22] }) (hty : o.type = 22)
    (w : World) (B h : Nat) (A : Option Addr) (m : List Nat) (n c : Nat) (hs : a.eval s = .slice (some ⟨h, 0, none⟩) 0 0) (hx : a.eval x = .slice A n c) (hw : w.ownsRow B 5 1 (.slice (some ⟨h, 0, none⟩) 0 0) 0 []) (hA : A = none → n = 0 ∧ c = 0) (hb : Bytes w w.heap.size A m) (hl : m.length = n)
    (hn : n ≤ 140737488355328) (hB : B ≤ w.heap.size)
    (hK : ∀ g2 cap2 w', w'.ownsRow B 5 1 (.slice (some ⟨g2, 0, none⟩) n cap2) n (vals m) → w.grownBy w' (some h) → B ≤ g2 → K (a.put o.dst (.slice (some ⟨g2, 0, none⟩) n cap2)) w') :
    if Region.wanted o (yielded ops a.tmps) = true then Oper.wp Tryd.prog o a w K Q else E := by
  have hw' : Region.wanted o (yielded ops a.tmps) = true := by simp [Region.wanted, hgd]
  rw [if_pos hw']
  exact wp_out s x ho hty w B h A m n c hs hx hw hA hb hl hn hB hK

/-- a new list without a byte. -/
theorem out_new (w : World) : (w.alloc (.cells #[] 5)).ownsRow w.heap.size 5 1 (.slice (some ⟨w.heap.size, 0, none⟩) 0 0) 0 [] := World.ownsRow_lit w #[] 0 (Nat.le_refl _) (by simp [maxLen]) rfl
theorem app_done {w w2 : World} {l m : List Nat} {g cap n : Nat} (ho : w2.ownsRow w.heap.size 5 1 (.slice (some ⟨g, 0, none⟩) n cap) n (vals l ++ vals m)) (hl : (l ++ m).length = n) (hb : Below w.heap.size w w2) : AppPost w (l ++ m) (.returned (.slice (some ⟨g, 0, none⟩) n cap)) w2 :=
  ⟨g, cap, n, rfl, hl, (ho.lt g rfl).1, by rw [vals_append]; exact ho, hb⟩


theorem equal_loop_true {l m : List Nat} (h : l.length = m.length) (k : Nat) (hk : ¬ k < l.length) (ht : l.take k = m.take k) : l = m := by
  rw [List.take_of_length_le (by omega), List.take_of_length_le (by omega)] at ht
  exact ht
theorem take_more {l m : List Nat} {k x : Nat} (h : l.take k = m.take k) (h1 : l[k]? = some x) (h2 : m[k]? = some x) : l.take (k + 1) = m.take (k + 1) := by
  rw [take_snoc h1, take_snoc h2, h]
theorem ne_at {l m : List Nat} {k x y : Nat} (h1 : l[k]? = some x) (h2 : m[k]? = some y) (hn : x ≠ y) : l ≠ m := by
  intro e
  rw [e, h2] at h1
  exact hn (Option.some.inj h1).symm

theorem same_any (w : World) (B1 B2 : Nat) (A1 A2 : Option Addr) (l1 l2 : List Nat) (n1 n2 c1 c2 : Nat) (e1 : l1.length = n1) (e2 : l2.length = n2) (h1 : Bytes w B1 A1 l1) (h2 : Bytes w B2 A2 l2) (h63 : n1 ≤ 9223372036854775807) :
    Calls Tryd.prog 21 #[.slice A1 n1 c1, .slice A2 n2 c2] w fun e w' => e = .returned (.bool (decide (l1 = l2))) ∧ ∃ m, w' = w.drewN m := by
  have H1 := Lib.hid h1
  have H2 := Lib.hid h2
  have E1 := Lib.hid e1
  have E2 := Lib.hid e2
  clear h1 h2 e1 e2
  by_cases hn : n1 = n2
  · subst hn
    go_enter Tryd.func21, Tryd.ntmps21
    go_wp2
    go_loopw [13] (fun i wr => ∃ k : Nat, k ≤ n1 ∧ i = .int .i64 (k : Int) ∧ l1.take k = l2.take k ∧ ∃ m, wr = w.drewN m) (fun i _ => n1 - (intOf i).toNat)
    case atStart => exact ⟨0, Nat.zero_le _, rfl, by simp, 0, rfl⟩
    case round =>
      obtain ⟨k, hk, rfl, ht, m, rfl⟩ := hrel
      have HT := Lib.hid ht
      clear ht
      by_cases hlt : k < n1
      · obtain ⟨a1, x, rfl, hx, hlx, hc1⟩ := H1.out.at_ (k := k) (by rw [E1.out]; exact hlt)
        obtain ⟨a2, y, rfl, hy, hly, hc2⟩ := H2.out.at_ (k := k) (by rw [E2.out]; exact hlt)
        have LX := Lib.hid hlx
        have LY := Lib.hid hly
        clear hlx hly
        by_cases hxy : x = y
        · subst hxy
          have hs := Lib.hid (take_more HT.out LX.out LY.out)
          go_wp2_with fail
          go_quiet (fail)
          go_wp2
          go_roundw
          case rel => exact ⟨k + 1, by omega, by go_num, hs.out, _, rfl⟩
          case measure => simp [intOf]; omega
        · have hd : Hid (decide (l1 = l2) = false) := decide_eq_false (ne_at LX.out LY.out hxy)
          have hne : ((x : Int) != (y : Int)) = true := by rw [bne_iff_ne]; omega
          clear hxy
          go_wp2_with fail
          go_quiet (fail)
          go_wp2
          go_ret
          exact ⟨ret_bool hd.out.symm, _, World.drewN_drewN ..⟩
      · obtain rfl : k = n1 := by omega
        have hd : Hid (l1 = l2) := equal_loop_true (E1.out.trans E2.out.symm) k (by rw [E1.out]; exact hlt) HT.out
        go_wp2
        go_ret
        exact ⟨ret_bool (by rw [decide_eq_true hd.out]), m, rfl⟩
  · have hd : Hid (decide (l1 = l2) = false) := decide_eq_false (fun e => hn (by rw [← E1.out, ← E2.out, e]))
    have hne : ((n1 : Int) != (n2 : Int)) = true := by rw [bne_iff_ne]; omega
    go_enter Tryd.func21, Tryd.ntmps21
    go_wp2
    go_ret
    exact ⟨ret_bool hd.out.symm, 0, rfl⟩

/-- append of any bytes to a list of one's own. -/
theorem run_onto (w : World) (B h k cap : Nat) (xs : List Nat) (A : Option Addr) (m : List Nat) (n c : Nat) (ho : w.ownsRow B 5 1 (.slice (some ⟨h, 0, none⟩) k cap) k (vals xs)) (hA : A = none → n = 0 ∧ c = 0) (hb : Bytes w w.heap.size A m) (hl : m.length = n)
    (hn : k + n ≤ 140737488355328) (hB : B ≤ w.heap.size) :
    ∃ g2 cap2 w', (Builtin.append_ #[22, 22] 22 #[.slice (some ⟨h, 0, none⟩) k cap, .slice A n c]).run Tryd.prog w = .ok (.slice (some ⟨g2, 0, none⟩) (k + n) cap2) w' ∧
      w'.ownsRow B 5 1 (.slice (some ⟨g2, 0, none⟩) (k + n) cap2) (k + n) (vals (xs ++ m)) ∧ w.grownBy w' (some h) ∧ B ≤ g2 := by
  obtain ⟨i0, hi0, hz0, hz1, hz2⟩ := info_parts byte_info
  cases A with
  | none =>
    obtain ⟨rfl, rfl⟩ := hA rfl
    obtain rfl := List.eq_nil_of_length_eq_zero hl
    exact ⟨h, cap, w, run_append_owned_none (P := Tryd.prog) (w := w) B 22 22 5 i0 1 Tryd.underlying22 hi0 _ k (vals xs) ho, by rw [List.append_nil]; exact ho, turn_refl _ _, (ho.lt h rfl).1⟩
  | some ad =>
    have hc : ∀ j u, (vals m)[j]? = some u → w.cell? (ad.add j) = some u := by
      intro j u hu
      rw [vals_get] at hu
      obtain ⟨x, hx, rfl⟩ := Option.map_eq_some_iff.1 hu
      have hjl : j < m.length := (List.getElem?_eq_some_iff.1 hx).1
      obtain ⟨ad', e, hadb, hc⟩ := hb.2 (by omega)
      obtain rfl := Option.some.inj e
      exact hc j x hx
    obtain ⟨v', w', hr, h2, h3, hat, h5⟩ := run_append_own_at (P := Tryd.prog) w B 22 22 5 i0 (.int .u8 0) 1 1 Tryd.underlying22 hi0 hz0 hz1 hz2 rfl (by decide) _ k (vals xs) ho ad n c (vals m) (by rw [vals_length, hl, Nat.mul_one]) hc (vals_one m) (by simp only [maxLen]; omega) (by omega) hB
    obtain ⟨g2, cap2, rfl, hg2⟩ := own_shape (w := w) h2 (.inr (fun h => by simp at hat; exact hat h))
    exact ⟨g2, cap2, w', hr, by rw [vals_append]; exact h2, h3, hg2⟩
theorem wp_onto {o : Oper} {a : Act} {K : Act → World → Prop} {Q : Exit → Act → World → Prop} (s x : Operand) (ho : o.op = .call { callee := .builtin .append, args := #[s, x], argTypes := #[22, 22] }) (hty : o.type = 22)
    (w : World) (B h k cap : Nat) (xs : List Nat) (A : Option Addr) (m : List Nat) (n c : Nat) (hs : a.eval s = .slice (some ⟨h, 0, none⟩) k cap) (hx : a.eval x = .slice A n c) (hw : w.ownsRow B 5 1 (.slice (some ⟨h, 0, none⟩) k cap) k (vals xs)) (hA : A = none → n = 0 ∧ c = 0) (hb : Bytes w w.heap.size A m) (hl : m.length = n)
    (hn : k + n ≤ 140737488355328) (hB : B ≤ w.heap.size)
    (hK : ∀ g2 cap2 w', w'.ownsRow B 5 1 (.slice (some ⟨g2, 0, none⟩) (k + n) cap2) (k + n) (vals (xs ++ m)) → w.grownBy w' (some h) → B ≤ g2 → K (a.put o.dst (.slice (some ⟨g2, 0, none⟩) (k + n) cap2)) w') : o.wp Tryd.prog a w K Q := by
  obtain ⟨g2, cap2, w', hr, h2, h3, h4⟩ := run_onto w B h k cap xs A m n c hw hA hb hl hn hB
  rw [← hty] at hr
  unfold Oper.wp execOp
  simp only [ho, resolve, invoke, builtin, Sem.run_bind, Sem.run_pure, Result.andThen_ok, List.map_toArray, List.map_cons, List.map_nil, hs, hx]
  rw [hty] at hr ⊢
  rw [hr]
  exact hK _ _ _ h2 h3 h4
theorem wpList_onto {ops : Array Oper} {rest : List Oper} {o : Oper} {a : Act} {Q : Exit → Act → World → Prop} (hgd : o.guard = none) (s x : Operand) (ho : o.op = .call { callee := .builtin .append, args := #[s, x], argTypes := #[22, 22] }) (hty : o.type = 22)
    (w : World) (B h k cap : Nat) (xs : List Nat) (A : Option Addr) (m : List Nat) (n c : Nat) (hs : a.eval s = .slice (some ⟨h, 0, none⟩) k cap) (hx : a.eval x = .slice A n c) (hw : w.ownsRow B 5 1 (.slice (some ⟨h, 0, none⟩) k cap) k (vals xs)) (hA : A = none → n = 0 ∧ c = 0) (hb : Bytes w w.heap.size A m) (hl : m.length = n)
    (hn : k + n ≤ 140737488355328) (hB : B ≤ w.heap.size)
    (hK : ∀ g2 cap2 w', w'.ownsRow B 5 1 (.slice (some ⟨g2, 0, none⟩) (k + n) cap2) (k + n) (vals (xs ++ m)) → w.grownBy w' (some h) → B ≤ g2 → wpList Tryd.prog ops Q rest (a.put o.dst (.slice (some ⟨g2, 0, none⟩) (k + n) cap2)) w') : wpList Tryd.prog ops Q (o :: rest) a w :=
  wpList_plain hgd fun _ hQ => wp_onto s x ho hty w B h k cap xs A m n c hs hx hw hA hb hl hn hB fun g2 cap2 w' h2 h3 h4 => hQ _ _ (hK g2 cap2 w' h2 h3 h4)
end Go.Proofs.YtjipeiigcoipjaaDoor.Se
