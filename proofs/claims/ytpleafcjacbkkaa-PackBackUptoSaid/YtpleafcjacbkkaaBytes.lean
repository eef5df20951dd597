/- Slices of bytes as the claims of layer num take them, and the contracts of the functions that only read them: the law's 'equal', num's 'isForm' and 'join'. For every slice of bytes; the world stays as it was. -/
import Derived.Test.YtpleafcjacbkkaaShift
import Derived.Below
import Derived.Outline
import Derived.Laws.BytesArg
import Derived.Laws.OwnMore
import Derived.OwnWalk
namespace Go.Proofs.Ytpleafcjacbkkaa.Nu
open Go.ChangeShapes Go.WideShapes Go.ChangeAt Go.RowKit
set_option linter.unusedVariables false

theorem ret_int {k : IntKind} {a b : Int} (h : a = b) : Ending.returned (.int k a) = .returned (.int k b) := by rw [h]
theorem ret_bool {a b : Bool} (h : a = b) : Ending.returned (.bool a) = .returned (.bool b) := by rw [h]

/-- a slice of the address A that holds these bytes, and lies below block B. -/
def Bytes (w : World) (B : Nat) (A : Option Addr) (l : List Nat) : Prop :=
  Small l ∧ (0 < l.length → ∃ ad : Addr, A = some ad ∧ ad.block < B ∧ ∀ (j x : Nat), l[j]? = some x → w.cell? (ad.add j) = some (.int .u8 (x : Int)))

theorem Bytes.at_ {w : World} {B : Nat} {A : Option Addr} {l : List Nat} (h : Bytes w B A l) {k : Nat} (hk : k < l.length) :
    ∃ (ad : Addr) (x : Nat), A = some ad ∧ x < 256 ∧ l[k]? = some x ∧ w.cell? (ad.add k) = some (.int .u8 (x : Int)) := by
  obtain ⟨ad, e, _, hc⟩ := h.2 (by omega)
  exact ⟨ad, l[k], e, h.1 _ (List.getElem_mem hk), List.getElem?_eq_getElem hk, hc k _ (List.getElem?_eq_getElem hk)⟩
theorem block_add (a : Addr) (n : Nat) : (a.add n).block = a.block := by unfold Addr.add; split <;> rfl
theorem add_add (a : Addr) (m n : Nat) : (a.add m).add n = a.add (m + n) := by
  unfold Addr.add
  by_cases h1 : m = 0
  · subst h1; simp
  · by_cases h2 : n = 0
    · subst h2; simp
    · have h3 : ¬ m + n = 0 := by omega
      simp [h1, h2, Nat.add_assoc]
theorem Bytes.below {w w' : World} {B : Nat} {A : Option Addr} {l : List Nat} (h : Bytes w B A l) (hb : Below B w w') : Bytes w' B A l :=
  ⟨h.1, fun hl => by
    obtain ⟨ad, e, hB, hc⟩ := h.2 hl
    exact ⟨ad, e, hB, fun j x hx => (hb.cell (by rw [block_add]; exact hB)).trans (hc j x hx)⟩⟩
theorem Bytes.more {w : World} {B B' : Nat} {A : Option Addr} {l : List Nat} (h : Bytes w B A l) (hB : B ≤ B') : Bytes w B' A l :=
  ⟨h.1, fun hl => by
    obtain ⟨ad, e, hb, hc⟩ := h.2 hl
    exact ⟨ad, e, by omega, hc⟩⟩
theorem Bytes.up {w W : World} {A : Option Addr} {l : List Nat} (h : Bytes w w.heap.size A l) (hb : Below w.heap.size w W) : Bytes W W.heap.size A l := (h.below hb).more hb.size
theorem Bytes.none_ (w : World) (B : Nat) (A : Option Addr) : Bytes w B A [] := ⟨fun x hx => (by cases hx), fun h => absurd h (by simp)⟩
theorem small_take {l : List Nat} (h : Small l) (k : Nat) : Small (l.take k) := fun x hx => h x (List.mem_of_mem_take hx)
theorem small_drop {l : List Nat} (h : Small l) (k : Nat) : Small (l.drop k) := fun x hx => h x (List.mem_of_mem_drop hx)
theorem small_append {l m : List Nat} (h : Small l) (k : Small m) : Small (l ++ m) := fun x hx => (List.mem_append.1 hx).elim (h x) (k x)
theorem Bytes.take {w : World} {B : Nat} {A : Option Addr} {l : List Nat} (h : Bytes w B A l) (k : Nat) : Bytes w B A (l.take k) :=
  ⟨small_take h.1 k, fun hl => by
    obtain ⟨ad, e, hb, hc⟩ := h.2 (by simp at hl; omega)
    refine ⟨ad, e, hb, fun j x hx => hc j x ?_⟩
    rw [List.getElem?_take] at hx
    split at hx
    · exact hx
    · cases hx⟩
theorem Bytes.drop {w : World} {B : Nat} {ad : Addr} {l : List Nat} (h : Bytes w B (some ad) l) (k : Nat) : Bytes w B (some (ad.add k)) (l.drop k) :=
  ⟨small_drop h.1 k, fun hl => by
    obtain ⟨ad', e, hb, hc⟩ := h.2 (by simp at hl; omega)
    obtain rfl := Option.some.inj e
    refine ⟨_, rfl, by rw [block_add]; exact hb, fun j x hx => ?_⟩
    rw [add_add]
    exact hc (k + j) x (by rwa [List.getElem?_drop] at hx)⟩
theorem Bytes.empty {w : World} {B : Nat} {A : Option Addr} {l : List Nat} (hl : l.length = 0) : Bytes w B A l := by
  obtain rfl := List.eq_nil_of_length_eq_zero hl
  exact Bytes.none_ _ _ _
theorem below_new (w : World) (o : Obj) : Below w.heap.size w (w.alloc o) := (Below.refl _ _).alloc (Nat.le_refl _) o
theorem below_drewN (B : Nat) (w : World) (n : Nat) : Below B w (w.drewN n) := ⟨rfl, rfl, rfl, Nat.le_refl _, fun _ _ => rfl⟩

/-- bytes as cells. -/
def vals (l : List Nat) : List Value := l.map fun x : Nat => Value.int .u8 (x : Int)
theorem vals_length (l : List Nat) : (vals l).length = l.length := by unfold vals; simp
theorem vals_get (l : List Nat) (j : Nat) : (vals l)[j]? = l[j]?.map fun x : Nat => Value.int .u8 (x : Int) := by unfold vals; simp
theorem vals_append (l m : List Nat) : vals (l ++ m) = vals l ++ vals m := by unfold vals; rw [List.map_append]
theorem vals_one (l : List Nat) : ∀ u ∈ vals l, u.oneCell' = true := by
  intro u hu
  obtain ⟨x, _, rfl⟩ := List.mem_map.1 hu
  rfl
theorem zero_add (g j : Nat) : (⟨g, 0, none⟩ : Addr).add j = ⟨g, j, none⟩ := by
  unfold Addr.add; split
  · rename_i hz; rw [hz]
  · simp
theorem bytes_own {w : World} {B g n cap : Nat} {m : List Nat} (h : w.ownsRow B 5 1 (.slice (some ⟨g, 0, none⟩) n cap) n (vals m)) (hs : Small m) : Bytes w w.heap.size (some ⟨g, 0, none⟩) m := by
  have hl : m.length = n := by have := h.1; rw [vals_length] at this; omega
  refine ⟨hs, fun _ => ⟨_, rfl, (h.lt g rfl).2, fun j x hj => ?_⟩⟩
  have hjl : j < m.length := (List.getElem?_eq_some_iff.1 hj).1
  rw [zero_add, h.cellAt j (by omega), vals_get, hj]; rfl
/-- bytes in a new block. -/
theorem bytes_new (w : World) (m : List Nat) (cs : Array Value) (hcs : cs = (vals m).toArray) (hs : Small m) (t : TypeId) : Bytes (w.alloc (.cells cs t)) (w.heap.size + 1) (some ⟨w.heap.size, 0, none⟩) m := by
  subst hcs
  refine ⟨hs, fun _ => ⟨_, rfl, Nat.lt_succ_self _, fun j x hj => ?_⟩⟩
  rw [zero_add, World.cell?_alloc_new]
  simp only [List.getElem?_toArray, vals_get, hj]; rfl

/-- the string of a slice of bytes. -/
theorem conv {w : World} {B : Nat} {A : Option Addr} {l : List Nat} (h : Bytes w B A l) (n c : Nat) (hn : l.length = n) : (convert 22 9 (.slice A n c)).run Try.prog w = .ok (.string (str l)) w := by
  subst hn
  cases A with
  | none =>
    have hl : l.length = 0 := by
      rcases Nat.eq_zero_or_pos l.length with h0 | h0
      · exact h0
      · obtain ⟨ad, e, _⟩ := h.2 h0; cases e
    obtain rfl := List.eq_nil_of_length_eq_zero hl
    exact run_convert_bytes_nil w 22 5 Try.underlying22 Try.underlying5 _ _ 9 Try.underlying9
  | some ad =>
    have hl : (loadCells ad l.length).run Try.prog w = .ok ((l.map fun x : Nat => (x : Int)).map (Value.int .u8)).toArray w := by
      have := run_loadCells_list (P := Try.prog) w ad ((l.map fun x : Nat => (x : Int)).map (Value.int .u8)) (fun j v hj => by
        have hjl : j < l.length := by
          have := (List.getElem?_eq_some_iff.1 hj).1
          simpa using this
        obtain ⟨ad', e, _, hc⟩ := h.2 (by omega)
        obtain rfl := Option.some.inj e
        rw [hc j l[j] (List.getElem?_eq_getElem hjl)]
        simp [List.getElem?_eq_getElem hjl] at hj
        rw [hj])
      simpa using this
    rw [run_convert_bytes_string w 22 9 5 _ _ c Try.underlying22 Try.underlying5 Try.underlying9, run_bytesToString w _ _ c _ hl, foldl_push_bytes]
    simp [str, strOfNums, ByteArray.empty, ByteArray.emptyWithCapacity]
    rfl

theorem equal_any (w : World) (B1 B2 : Nat) (A1 A2 : Option Addr) (l1 l2 : List Nat) (n1 n2 c1 c2 : Nat) (e1 : l1.length = n1) (e2 : l2.length = n2) (h1 : Bytes w B1 A1 l1) (h2 : Bytes w B2 A2 l2) :
    Calls Try.prog 32 #[.slice A1 n1 c1, .slice A2 n2 c2] w fun e w' => e = .returned (.bool (decide (l1 = l2))) ∧ w = w' := by
  have k1 := conv h1 n1 c1 e1
  have k2 := conv h2 n2 c2 e2
  have k3 := Lib.hid (str_eql h1.1 h2.1)
  clear h1 h2 e1 e2
  go_enter Try.func32, Try.ntmps32
  go_wp2
  go_ret
  exact ⟨ret_bool k3.out, rfl⟩

/-- may a number's bytes begin so? -/
def form (n : Nat) (r : List Nat) : Bool := decide (n ≤ 8 ∧ (n = 0 ∨ r[0]? ≠ some 0))

theorem isForm_any (w : World) (B : Nat) (A : Option Addr) (r : List Nat) (n m c : Nat) (hm : r.length = m) (hn : n < 256) (hb : Bytes w B A r) (hl : r.length ≤ 9223372036854775807) :
    Calls Try.prog 47 #[.int .i64 (n : Int), .slice A m c] w fun e w' => e = .returned (.bool (form n r)) ∧ w = w' := by
  by_cases h8 : 8 < n
  · have hf : form n r = false := decide_eq_false (by omega)
    rw [hf]
    clear hf hb
    go_enter Try.func47, Try.ntmps47
    go_wp2
    go_ret
    exact ⟨rfl, rfl⟩
  · have h8' : n ≤ 8 := by omega
    by_cases h0 : n = 0
    · have hf : form n r = true := decide_eq_true ⟨h8', .inl h0⟩
      rw [hf]
      subst h0
      clear hf hb h8 h8'
      go_enter Try.func47, Try.ntmps47
      go_wp2
      go_ret
      exact ⟨rfl, rfl⟩
    · have hz : ((n : Int) == 0) = false := by rw [beq_eq_false_iff_ne]; omega
      by_cases hr : m = 0
      · subst hr
        have hr0 := List.eq_nil_of_length_eq_zero hm
        have hf : form n r = true := decide_eq_true ⟨h8', .inr (by rw [hr0]; simp)⟩
        rw [hf]
        clear hf hb h8 h0 hr0
        go_enter Try.func47, Try.ntmps47
        go_wp2
        go_ret
        exact ⟨rfl, rfl⟩
      · obtain ⟨ad, x, rfl, hx, hlx, hcell⟩ := hb.at_ (k := 0) (by omega)
        have hcell0 : w.cell? ad = some (.int .u8 (x : Int)) := by simpa [Addr.add] using hcell
        have hmz : ((m : Int) == 0) = false := by rw [beq_eq_false_iff_ne]; omega
        have hm0 : (0 : Int) < (m : Int) := by omega
        by_cases hx0 : x = 0
        · subst hx0
          have hf : form n r = false := decide_eq_false (by rw [hlx]; simp; omega)
          rw [hf]
          clear hf hb h8 h0 hr hlx
          go_enter Try.func47, Try.ntmps47
          go_wp2
          go_ret
          exact ⟨rfl, rfl⟩
        · have hf : form n r = true := decide_eq_true ⟨h8', .inr (by rw [hlx]; simpa using hx0)⟩
          have hxz : ((x : Int) != 0) = true := by rw [bne_iff_ne]; omega
          rw [hf]
          clear hf hb h8 h0 hr hlx hx0
          go_enter Try.func47, Try.ntmps47
          go_wp2
          go_ret
          exact ⟨rfl, rfl⟩

theorem take_snoc {l : List Nat} {k x : Nat} (h : l[k]? = some x) : l.take (k + 1) = l.take k ++ [x] := by
  rw [List.take_add_one, h]; rfl
theorem wraps_u64 (n : Int) (h₀ : 0 ≤ n) (h₁ : n < 2 ^ 64) : IntKind.u64.wrap n = n := by rw [IntKind.wrap_u64]; omega
theorem or_byte (m x : Nat) (hm : m < 72057594037927936) (hx : x < 256) : bits .or .u64 ((m : Int) * 256) (x : Int) = ((m * 256 + x : Nat) : Int) := by
  have := bits_join .u64 64 (by decide) wraps_u64 8 ((m : Int) * 256) (x : Int) (by omega) (by omega) (by omega) (by omega) (by omega) (by omega)
  rw [this]; omega

theorem join_any (w : World) (B : Nat) (A : Option Addr) (l : List Nat) (n c : Nat) (hn : l.length = n) (h8 : n ≤ 8) (hb : Bytes w B A l) :
    Calls Try.prog 48 #[.slice A n c] w fun e w' => e = .returned (.int .u64 ((val l : Nat) : Int)) ∧ w = w' := by
  have hB := Lib.hid hb
  have HN := Lib.hid hn
  clear hb hn
  go_enter Try.func48, Try.ntmps48
  go_wp2
  go_loop [3, 8] (fun v i => ∃ k : Nat, k ≤ n ∧ i = .int .i64 k ∧ v = .int .u64 ((val (l.take k) : Nat) : Int)) (fun _ i => n - (intOf i).toNat)
  case atStart => exact ⟨0, Nat.zero_le _, rfl, by rw [List.take_zero]; rfl⟩
  case round =>
    obtain ⟨k, hk, rfl, rfl⟩ := hrel
    by_cases hlt : k < n
    · obtain ⟨ad, x, rfl, hx, hlx, hcell⟩ := hB.out.at_ (k := k) (by rw [HN.out]; exact hlt)
      have hm : val (l.take k) < 72057594037927936 := by
        have h1 := val_lt (small_take hB.out.1 k)
        have h2 : 256 ^ (l.take k).length ≤ 256 ^ 7 := Nat.pow_le_pow_right (by decide) (by rw [List.length_take]; omega)
        exact Nat.lt_of_lt_of_le h1 h2
      have hsn := val_snoc (l.take k) x
      rw [← take_snoc hlx] at hsn
      have HS := Lib.hid hsn
      clear hsn hlx
      generalize val (l.take k) = m at *
      have hor := or_byte m x hm hx
      go_wp2
      go_round
      case rel => exact ⟨k + 1, by omega, by go_num, by rw [HS.out, Int.natCast_add, Int.natCast_mul]; rfl⟩
      case measure => simp [intOf]; omega
    · obtain rfl : k = n := by omega
      have hu := Lib.hid (show val (l.take k) = val l by rw [← HN.out, List.take_length])
      have hm : val (l.take k) < 18446744073709551616 := by
        have h1 := val_lt (small_take hB.out.1 k)
        have h2 : 256 ^ (l.take k).length ≤ 256 ^ 8 := Nat.pow_le_pow_right (by decide) (by rw [List.length_take]; omega)
        exact Nat.lt_of_lt_of_le h1 h2
      generalize val (l.take k) = m at *
      go_wp2
      go_ret
      exact ⟨ret_int (by rw [hu.out]), rfl⟩
end Go.Proofs.Ytpleafcjacbkkaa.Nu
