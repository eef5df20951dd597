/- Words and contracts that the proofs of this seat stand on, part 5 of 14. -/
import Derived.Test.YtblgbbpbhcaodaaMgD
import Derived.Below
import Derived.Outline
import Derived.Laws.BytesArg
import Derived.Laws.OwnMore
import Derived.OwnWalk
import Derived.Deep.QuietTactic
import Derived.BigQuiet
import Derived.Laws.CopyOwn
import Derived.Laws.AppendOwnNone
import Derived.Maps.AppendAt
import Derived.Deep.AppendLies

/- Slices of bytes as the claims of layer num take them, and the contracts of the functions that only read them: the law's 'equal', num's 'isForm' and 'join'. For every slice of bytes; the world stays as it was. -/
namespace Go.Proofs.Ytblgbbpbhcaodaa.Nu
open Go.ChangeShapes Go.WideShapes Go.ChangeAt Go.RowKit
set_option linter.unusedVariables false
set_option maxRecDepth 4000

theorem ret_int {k : IntKind} {a b : Int} (h : a = b) : Ending.returned (.int k a) = .returned (.int k b) := by rw [h]
theorem ret_bool {a b : Bool} (h : a = b) : Ending.returned (.bool a) = .returned (.bool b) := by rw [h]

/-- a slice of the address A that holds these bytes, and lies below block B. -/
def Bytes (w : World) (B : Nat) (A : Option Addr) (l : List Nat) : Prop :=
  Small l ∧ (0 < l.length → ∃ ad : Addr, A = some ad ∧ ad.block < B ∧ ∀ (j x : Nat), l[j]? = some x → w.cell? (ad.add j) = some (.int .u8 (x : Int)))

theorem Bytes.at_ {w : World} {B : Nat} {A : Option Addr} {l : List Nat} (h : Bytes w B A l) {k : Nat} (hk : k < l.length) :
    ∃ (ad : Addr) (x : Nat), A = some ad ∧ x < 256 ∧ l[k]? = some x ∧ w.cell? (ad.add k) = some (.int .u8 (x : Int)) := by
  obtain ⟨ad, e, _, hc⟩ := h.2 (by omega)
  exact ⟨ad, l[k], e, h.1 _ (List.getElem_mem hk), List.getElem?_eq_getElem hk, hc k _ (List.getElem?_eq_getElem hk)⟩
theorem block_add (a : Addr) (n : Nat) : (a.add n).block = a.block := by unfold Addr.add; split <;> rfl
theorem add_add (a : Addr) (m n : Nat) : (a.add m).add n = a.add (m + n) := by
  unfold Addr.add
  by_cases h1 : m = 0
  · subst h1; simp
  · by_cases h2 : n = 0
    · subst h2; simp
    · have h3 : ¬ m + n = 0 := by omega
      simp [h1, h2, Nat.add_assoc]
theorem Bytes.below {w w' : World} {B : Nat} {A : Option Addr} {l : List Nat} (h : Bytes w B A l) (hb : Below B w w') : Bytes w' B A l :=
  ⟨h.1, fun hl => by
    obtain ⟨ad, e, hB, hc⟩ := h.2 hl
    exact ⟨ad, e, hB, fun j x hx => (hb.cell (by rw [block_add]; exact hB)).trans (hc j x hx)⟩⟩
theorem Bytes.more {w : World} {B B' : Nat} {A : Option Addr} {l : List Nat} (h : Bytes w B A l) (hB : B ≤ B') : Bytes w B' A l :=
  ⟨h.1, fun hl => by
    obtain ⟨ad, e, hb, hc⟩ := h.2 hl
    exact ⟨ad, e, by omega, hc⟩⟩
theorem Bytes.up {w W : World} {A : Option Addr} {l : List Nat} (h : Bytes w w.heap.size A l) (hb : Below w.heap.size w W) : Bytes W W.heap.size A l := (h.below hb).more hb.size
theorem Bytes.none_ (w : World) (B : Nat) (A : Option Addr) : Bytes w B A [] := ⟨fun x hx => (by cases hx), fun h => absurd h (by simp)⟩
theorem small_take {l : List Nat} (h : Small l) (k : Nat) : Small (l.take k) := fun x hx => h x (List.mem_of_mem_take hx)
theorem small_drop {l : List Nat} (h : Small l) (k : Nat) : Small (l.drop k) := fun x hx => h x (List.mem_of_mem_drop hx)
theorem small_append {l m : List Nat} (h : Small l) (k : Small m) : Small (l ++ m) := fun x hx => (List.mem_append.1 hx).elim (h x) (k x)
theorem Bytes.take {w : World} {B : Nat} {A : Option Addr} {l : List Nat} (h : Bytes w B A l) (k : Nat) : Bytes w B A (l.take k) :=
  ⟨small_take h.1 k, fun hl => by
    obtain ⟨ad, e, hb, hc⟩ := h.2 (by simp at hl; omega)
    refine ⟨ad, e, hb, fun j x hx => hc j x ?_⟩
    rw [List.getElem?_take] at hx
    split at hx
    · exact hx
    · cases hx⟩
theorem Bytes.drop {w : World} {B : Nat} {ad : Addr} {l : List Nat} (h : Bytes w B (some ad) l) (k : Nat) : Bytes w B (some (ad.add k)) (l.drop k) :=
  ⟨small_drop h.1 k, fun hl => by
    obtain ⟨ad', e, hb, hc⟩ := h.2 (by simp at hl; omega)
    obtain rfl := Option.some.inj e
    refine ⟨_, rfl, by rw [block_add]; exact hb, fun j x hx => ?_⟩
    rw [add_add]
    exact hc (k + j) x (by rwa [List.getElem?_drop] at hx)⟩
theorem Bytes.empty {w : World} {B : Nat} {A : Option Addr} {l : List Nat} (hl : l.length = 0) : Bytes w B A l := by
  obtain rfl := List.eq_nil_of_length_eq_zero hl
  exact Bytes.none_ _ _ _
theorem below_new (w : World) (o : Obj) : Below w.heap.size w (w.alloc o) := (Below.refl _ _).alloc (Nat.le_refl _) o
theorem below_drewN (B : Nat) (w : World) (n : Nat) : Below B w (w.drewN n) := ⟨rfl, rfl, rfl, Nat.le_refl _, fun _ _ => rfl⟩

/-- bytes as cells. -/
def vals (l : List Nat) : List Value := l.map fun x : Nat => Value.int .u8 (x : Int)
theorem vals_length (l : List Nat) : (vals l).length = l.length := by unfold vals; simp
theorem vals_get (l : List Nat) (j : Nat) : (vals l)[j]? = l[j]?.map fun x : Nat => Value.int .u8 (x : Int) := by unfold vals; simp
theorem vals_append (l m : List Nat) : vals (l ++ m) = vals l ++ vals m := by unfold vals; rw [List.map_append]
theorem vals_one (l : List Nat) : ∀ u ∈ vals l, u.oneCell' = true := by
  intro u hu
  obtain ⟨x, _, rfl⟩ := List.mem_map.1 hu
  rfl
theorem zero_add (g j : Nat) : (⟨g, 0, none⟩ : Addr).add j = ⟨g, j, none⟩ := by
  unfold Addr.add; split
  · rename_i hz; rw [hz]
  · simp
theorem bytes_own {w : World} {B g n cap : Nat} {m : List Nat} (h : w.ownsRow B 5 1 (.slice (some ⟨g, 0, none⟩) n cap) n (vals m)) (hs : Small m) : Bytes w w.heap.size (some ⟨g, 0, none⟩) m := by
  have hl : m.length = n := by have := h.1; rw [vals_length] at this; omega
  refine ⟨hs, fun _ => ⟨_, rfl, (h.lt g rfl).2, fun j x hj => ?_⟩⟩
  have hjl : j < m.length := (List.getElem?_eq_some_iff.1 hj).1
  rw [zero_add, h.cellAt j (by omega), vals_get, hj]; rfl
/-- bytes in a new block. -/
theorem bytes_new (w : World) (m : List Nat) (cs : Array Value) (hcs : cs = (vals m).toArray) (hs : Small m) (t : TypeId) : Bytes (w.alloc (.cells cs t)) (w.heap.size + 1) (some ⟨w.heap.size, 0, none⟩) m := by
  subst hcs
  refine ⟨hs, fun _ => ⟨_, rfl, Nat.lt_succ_self _, fun j x hj => ?_⟩⟩
  rw [zero_add, World.cell?_alloc_new]
  simp only [List.getElem?_toArray, vals_get, hj]; rfl

/-- the string of a slice of bytes. -/
theorem conv {w : World} {B : Nat} {A : Option Addr} {l : List Nat} (h : Bytes w B A l) (n c : Nat) (hn : l.length = n) : (convert 25 9 (.slice A n c)).run Try.prog w = .ok (.string (str l)) w := by
  subst hn
  cases A with
  | none =>
    have hl : l.length = 0 := by
      rcases Nat.eq_zero_or_pos l.length with h0 | h0
      · exact h0
      · obtain ⟨ad, e, _⟩ := h.2 h0; cases e
    obtain rfl := List.eq_nil_of_length_eq_zero hl
    exact run_convert_bytes_nil w 25 5 Try.underlying25 Try.underlying5 _ _ 9 Try.underlying9
  | some ad =>
    have hl : (loadCells ad l.length).run Try.prog w = .ok ((l.map fun x : Nat => (x : Int)).map (Value.int .u8)).toArray w := by
      have := run_loadCells_list (P := Try.prog) w ad ((l.map fun x : Nat => (x : Int)).map (Value.int .u8)) (fun j v hj => by
        have hjl : j < l.length := by
          have := (List.getElem?_eq_some_iff.1 hj).1
          simpa using this
        obtain ⟨ad', e, _, hc⟩ := h.2 (by omega)
        obtain rfl := Option.some.inj e
        rw [hc j l[j] (List.getElem?_eq_getElem hjl)]
        simp [List.getElem?_eq_getElem hjl] at hj
        rw [hj])
      simpa using this
    rw [run_convert_bytes_string w 25 9 5 _ _ c Try.underlying25 Try.underlying5 Try.underlying9, run_bytesToString w _ _ c _ hl, foldl_push_bytes]
    simp [str, strOfNums, ByteArray.empty, ByteArray.emptyWithCapacity]
    rfl

theorem equal_any (w : World) (B1 B2 : Nat) (A1 A2 : Option Addr) (l1 l2 : List Nat) (n1 n2 c1 c2 : Nat) (e1 : l1.length = n1) (e2 : l2.length = n2) (h1 : Bytes w B1 A1 l1) (h2 : Bytes w B2 A2 l2) :
    Calls Try.prog 8 #[.slice A1 n1 c1, .slice A2 n2 c2] w fun e w' => e = .returned (.bool (decide (l1 = l2))) ∧ w = w' := by
  have k1 := conv h1 n1 c1 e1
  have k2 := conv h2 n2 c2 e2
  have k3 := Lib.hid (str_eql h1.1 h2.1)
  clear h1 h2 e1 e2
  go_enter Try.func8, Try.ntmps8
  go_wp2
  go_ret
  exact ⟨ret_bool k3.out, rfl⟩

/-- may a number's bytes begin so? -/
def form (n : Nat) (r : List Nat) : Bool := decide (n ≤ 8 ∧ (n = 0 ∨ r[0]? ≠ some 0))

theorem isForm_any (w : World) (B : Nat) (A : Option Addr) (r : List Nat) (n m c : Nat) (hm : r.length = m) (hn : n < 256) (hb : Bytes w B A r) (hl : r.length ≤ 9223372036854775807) :
    Calls Try.prog 87 #[.int .i64 (n : Int), .slice A m c] w fun e w' => e = .returned (.bool (form n r)) ∧ w = w' := by
  by_cases h8 : 8 < n
  · have hf : form n r = false := decide_eq_false (by omega)
    rw [hf]
    clear hf hb
    go_enter Try.func87, Try.ntmps87
    go_wp2
    go_ret
    exact ⟨rfl, rfl⟩
  · have h8' : n ≤ 8 := by omega
    by_cases h0 : n = 0
    · have hf : form n r = true := decide_eq_true ⟨h8', .inl h0⟩
      rw [hf]
      subst h0
      clear hf hb h8 h8'
      go_enter Try.func87, Try.ntmps87
      go_wp2
      go_ret
      exact ⟨rfl, rfl⟩
    · have hz : ((n : Int) == 0) = false := by rw [beq_eq_false_iff_ne]; omega
      by_cases hr : m = 0
      · subst hr
        have hr0 := List.eq_nil_of_length_eq_zero hm
        have hf : form n r = true := decide_eq_true ⟨h8', .inr (by rw [hr0]; simp)⟩
        rw [hf]
        clear hf hb h8 h0 hr0
        go_enter Try.func87, Try.ntmps87
        go_wp2
        go_ret
        exact ⟨rfl, rfl⟩
      · obtain ⟨ad, x, rfl, hx, hlx, hcell⟩ := hb.at_ (k := 0) (by omega)
        have hcell0 : w.cell? ad = some (.int .u8 (x : Int)) := by simpa [Addr.add] using hcell
        have hmz : ((m : Int) == 0) = false := by rw [beq_eq_false_iff_ne]; omega
        have hm0 : (0 : Int) < (m : Int) := by omega
        by_cases hx0 : x = 0
        · subst hx0
          have hf : form n r = false := decide_eq_false (by rw [hlx]; simp; omega)
          rw [hf]
          clear hf hb h8 h0 hr hlx
          go_enter Try.func87, Try.ntmps87
          go_wp2
          go_ret
          exact ⟨rfl, rfl⟩
        · have hf : form n r = true := decide_eq_true ⟨h8', .inr (by rw [hlx]; simpa using hx0)⟩
          have hxz : ((x : Int) != 0) = true := by rw [bne_iff_ne]; omega
          rw [hf]
          clear hf hb h8 h0 hr hlx hx0
          go_enter Try.func87, Try.ntmps87
          go_wp2
          go_ret
          exact ⟨rfl, rfl⟩

theorem take_snoc {l : List Nat} {k x : Nat} (h : l[k]? = some x) : l.take (k + 1) = l.take k ++ [x] := by
  rw [List.take_add_one, h]; rfl
theorem wraps_u64 (n : Int) (h₀ : 0 ≤ n) (h₁ : n < 2 ^ 64) : IntKind.u64.wrap n = n := by rw [IntKind.wrap_u64]; omega
theorem or_byte (m x : Nat) (hm : m < 72057594037927936) (hx : x < 256) : bits .or .u64 ((m : Int) * 256) (x : Int) = ((m * 256 + x : Nat) : Int) := by
  have := bits_join .u64 64 (by decide) wraps_u64 8 ((m : Int) * 256) (x : Int) (by omega) (by omega) (by omega) (by omega) (by omega) (by omega)
  rw [this]; omega

theorem join_any (w : World) (B : Nat) (A : Option Addr) (l : List Nat) (n c : Nat) (hn : l.length = n) (h8 : n ≤ 8) (hb : Bytes w B A l) :
    Calls Try.prog 88 #[.slice A n c] w fun e w' => e = .returned (.int .u64 ((val l : Nat) : Int)) ∧ w = w' := by
  have hB := Lib.hid hb
  have HN := Lib.hid hn
  clear hb hn
  go_enter Try.func88, Try.ntmps88
  go_wp2
  go_loop [3, 8] (fun v i => ∃ k : Nat, k ≤ n ∧ i = .int .i64 k ∧ v = .int .u64 ((val (l.take k) : Nat) : Int)) (fun _ i => n - (intOf i).toNat)
  case atStart => exact ⟨0, Nat.zero_le _, rfl, by rw [List.take_zero]; rfl⟩
  case round =>
    obtain ⟨k, hk, rfl, rfl⟩ := hrel
    by_cases hlt : k < n
    · obtain ⟨ad, x, rfl, hx, hlx, hcell⟩ := hB.out.at_ (k := k) (by rw [HN.out]; exact hlt)
      have hm : val (l.take k) < 72057594037927936 := by
        have h1 := val_lt (small_take hB.out.1 k)
        have h2 : 256 ^ (l.take k).length ≤ 256 ^ 7 := Nat.pow_le_pow_right (by decide) (by rw [List.length_take]; omega)
        exact Nat.lt_of_lt_of_le h1 h2
      have hsn := val_snoc (l.take k) x
      rw [← take_snoc hlx] at hsn
      have HS := Lib.hid hsn
      clear hsn hlx
      generalize val (l.take k) = m at *
      have hor := or_byte m x hm hx
      go_wp2
      go_round
      case rel => exact ⟨k + 1, by omega, by go_num, by rw [HS.out, Int.natCast_add, Int.natCast_mul]; rfl⟩
      case measure => simp [intOf]; omega
    · obtain rfl : k = n := by omega
      have hu := Lib.hid (show val (l.take k) = val l by rw [← HN.out, List.take_length])
      have hm : val (l.take k) < 18446744073709551616 := by
        have h1 := val_lt (small_take hB.out.1 k)
        have h2 : 256 ^ (l.take k).length ≤ 256 ^ 8 := Nat.pow_le_pow_right (by decide) (by rw [List.length_take]; omega)
        exact Nat.lt_of_lt_of_le h1 h2
      generalize val (l.take k) = m at *
      go_wp2
      go_ret
      exact ⟨ret_int (by rw [hu.out]), rfl⟩
end Go.Proofs.Ytblgbbpbhcaodaa.Nu

/- The contracts of num's Read and of the document's: both answer the same three numbers, at every place of every slice of bytes; nothing has changed but what was drawn. -/
namespace Go.Proofs.Ytblgbbpbhcaodaa.Nu
open Go.ChangeShapes Go.WideShapes Go.ChangeAt Go.RowKit
set_option linter.unusedVariables false
set_option maxRecDepth 4000

/-- an answer of three numbers; nothing is drawn, or the order of what only reads. -/
def Says (w : World) (v y f : Nat) (e : Ending) (w' : World) : Prop :=
  e = .returned (.tuple #[.int .u64 (v : Int), .int .i64 (y : Int), .int .i64 (f : Int)]) ∧ ∃ m, w' = w.drewN m

theorem read_out (w : World) (A : Option Addr) (n c : Nat) (at_ : Int) (h : at_ < 0 ∨ (n : Int) < at_) (h1 : -9223372036854775808 ≤ at_) (h2 : at_ ≤ 9223372036854775807) (hn : n ≤ 9223372036854775807) :
    Calls Try.prog 76 #[.slice A n c, .int .i64 at_] w (Says w 0 0 1) := by
  by_cases h0 : at_ < 0
  · clear h
    go_enter Try.func76, Try.ntmps76
    go_wp2
    go_ret3
    exact ⟨rfl, 0, rfl⟩
  · have h3 : (n : Int) < at_ := by omega
    have hd : decide ((n : Int) < at_) = true := decide_eq_true h3
    have hd0 : decide (at_ < 0) = false := decide_eq_false h0
    clear h
    go_enter Try.func76, Try.ntmps76
    go_wp2
    go_ret3
    exact ⟨rfl, 0, rfl⟩
theorem read_end (w : World) (A : Option Addr) (n c : Nat) (hn : n ≤ 9223372036854775807) : Calls Try.prog 76 #[.slice A n c, .int .i64 (n : Int)] w (Says w 0 0 2) := by
  have hd0 : decide ((n : Int) < 0) = false := decide_eq_false (by omega)
  go_enter Try.func76, Try.ntmps76
  go_wp2
  go_ret3
  exact ⟨rfl, 0, rfl⟩
/-- what stands at a place: which answer. -/
inductive What (n : Nat) (r : List Nat) (a : Nat) : Nat → Nat → Nat → Prop
  | form (h : form n r = false) : What n r a 0 0 4
  | short (h : form n r = true) (hl : r.length < n) : What n r a 0 0 2
  | ok (h : form n r = true) (hl : n ≤ r.length) : What n r a (val (r.take n)) (a + 1 + n) 0
theorem what_is (n : Nat) (r : List Nat) (a : Nat) : ∃ v y f, What n r a v y f := by
  cases h : form n r with
  | false => exact ⟨_, _, _, .form h⟩
  | true =>
    rcases Nat.lt_or_ge r.length n with hl | hl
    · exact ⟨_, _, _, .short h hl⟩
    · exact ⟨_, _, _, .ok h hl⟩

set_option maxHeartbeats 1600000 in
theorem read_some (w : World) (ad : Addr) (l : List Nat) (n c a x v y f : Nat) (hn : l.length = n) (hnc : n ≤ c) (hc : c ≤ 9223372036854775807) (hb : Bytes w w.heap.size (some ad) l) (ha : a < n) (hx : l[a]? = some x)
    (hw : What x (l.drop (a + 1)) a v y f) : Calls Try.prog 76 #[.slice (some ad) n c, .int .i64 (a : Int)] w (Says w v y f) := by
  obtain ⟨ad', x', e, hx8, hlx, hcell⟩ := hb.at_ (k := a) (by omega)
  obtain rfl := Option.some.inj e
  obtain rfl : x = x' := Option.some.inj (hx.symm.trans hlx)
  have HW := Lib.hid hw
  have HB := Lib.hid hb
  have HN := Lib.hid hn
  clear hx hlx hw hb hn
  have d0 : decide ((a : Int) < 0) = false := decide_eq_false (by omega)
  have d1 : decide ((n : Int) < (a : Int)) = false := decide_eq_false (by omega)
  have d2 : ((a : Int) == (n : Int)) = false := by rw [beq_eq_false_iff_ne]; omega
  have d3 : (0 : Int) ≤ (a : Int) := by omega
  have d4 : (a : Int) < (n : Int) := by omega
  have d5 : (0 : Int) ≤ (a : Int) + 1 := by omega
  have d6 : (a : Int) + 1 ≤ (n : Int) := by omega
  have d7 : (a : Int) + 1 ≤ (c : Int) := by omega
  by_cases hca : c = a + 1
  · go_enter Try.func76, Try.ntmps76
    go_wp2_with fail
    go_quiet (fail)
    go_wp2_with fail
    clear d0 d1 d2 d3 d4 d5 d6 d7 hcell
    have HBR : Hid (Bytes (w.drewN nq) w.heap.size (some ad) (l.drop (a + 1))) := Bytes.empty (by rw [List.length_drop, HN.out]; omega)
    have HL : Hid ((l.drop (a + 1)).length = n - (a + 1)) := by
      show _ = _
      rw [List.length_drop, HN.out]
    refine (isForm_any _ w.heap.size _ (l.drop (a + 1)) x _ _ HL.out hx8 HBR.out (by rw [HL.out]; omega)).mono ?_
    rintro e w' ⟨rfl, rfl⟩
    generalize hm : n - (a + 1) = m at *
    cases HW.out with
    | form h =>
      rw [h]
      clear hm
      go_wp2
      go_ret3
      exact ⟨rfl, _, rfl⟩
    | short h hl =>
      rw [h]
      have dl : decide (m < x) = true := decide_eq_true (by rw [HL.out] at hl; omega)
      clear hm h hl
      go_wp2
      go_ret3
      exact ⟨rfl, _, rfl⟩
    | ok h hl =>
      rw [h]
      rw [HL.out] at hl
      obtain rfl : x = 0 := by omega
      obtain rfl : m = 0 := by omega
      have e4 : (a : Int) + 1 ≤ 9223372036854775807 := by omega
      clear hm h hl
      go_wp2_with fail
      refine (join_any _ w.heap.size _ [] 0 _ rfl (by omega) (Bytes.none_ _ _ _)).mono ?_
      rintro e w' ⟨rfl, rfl⟩
      go_wp2
      go_ret3
      exact ⟨by simp [val], _, rfl⟩
  · go_enter Try.func76, Try.ntmps76
    go_wp2_with fail
    go_quiet (fail)
    go_wp2_with fail
    clear d0 d1 d2 d3 d4 d5 d6 d7 hcell
    have HBR : Hid (Bytes (w.drewN nq) w.heap.size (some ⟨ad.block, ad.off + (a + 1), none⟩) (l.drop (a + 1))) := by
        have hq := (HB.out.below (below_drewN _ w nq)).drop (a + 1)
        rwa [show ad.add (a + 1) = ⟨ad.block, ad.off + (a + 1), none⟩ by unfold Addr.add; simp] at hq
    have HL : Hid ((l.drop (a + 1)).length = n - (a + 1)) := by
      show _ = _
      rw [List.length_drop, HN.out]
    refine (isForm_any _ w.heap.size _ (l.drop (a + 1)) x _ _ HL.out hx8 HBR.out (by rw [HL.out]; omega)).mono ?_
    rintro e w' ⟨rfl, rfl⟩
    generalize hm : n - (a + 1) = m at *
    cases HW.out with
    | form h =>
      rw [h]
      clear hm
      go_wp2
      go_ret3
      exact ⟨rfl, _, rfl⟩
    | short h hl =>
      rw [h]
      have dl : decide (m < x) = true := decide_eq_true (by rw [HL.out] at hl; omega)
      clear hm h hl
      go_wp2
      go_ret3
      exact ⟨rfl, _, rfl⟩
    | ok h hl =>
      rw [h]
      rw [HL.out] at hl
      have hx9 : x ≤ 8 := (of_decide_eq_true h).1
      have dl : decide (m < x) = false := decide_eq_false (by omega)
      have e1 : (0 : Int) ≤ (x : Int) := by omega
      have e2 : (x : Int) ≤ ((c - (a + 1) : Nat) : Int) := by omega
      have e3 : x ≤ c - (a + 1) := by omega
      have e4 : (a : Int) + 1 + (x : Int) ≤ 9223372036854775807 := by omega
      have HM := Lib.hid hm
      clear hm h
      go_wp2_with fail
      refine (join_any _ w.heap.size _ ((l.drop (a + 1)).take x) x _ (by rw [List.length_take, HL.out]; omega) hx9 (HBR.out.take x)).mono ?_
      rintro e w' ⟨rfl, rfl⟩
      go_wp2
      go_ret3
      exact ⟨rfl, _, rfl⟩

end Go.Proofs.Ytblgbbpbhcaodaa.Nu

/- The contract of the document's Read at a place where a byte stands: it answers what num's Read answers. For every slice of bytes; nothing has changed. -/
namespace Go.Proofs.Ytblgbbpbhcaodaa.Nu
open Go.ChangeShapes Go.WideShapes Go.ChangeAt Go.RowKit
set_option linter.unusedVariables false
set_option maxRecDepth 4000

theorem form_false {n : Nat} {r : List Nat} (h : form n r = false) : 8 < n ∨ (0 < n ∧ r[0]? = some 0) := by
  have := of_decide_eq_false h
  by_cases h8 : 8 < n
  · exact .inl h8
  · refine .inr ⟨by
      rcases Nat.eq_zero_or_pos n with h0 | h0
      · exact absurd ⟨by omega, .inl h0⟩ this
      · exact h0, ?_⟩
    by_cases hr : r[0]? = some 0
    · exact hr
    · exact absurd ⟨by omega, .inr hr⟩ this
theorem add_lit (ad : Addr) (k : Nat) : ad.add (k + 1) = ⟨ad.block, ad.off + (k + 1), none⟩ := by unfold Addr.add; simp
theorem form_true {n : Nat} {r : List Nat} (h : form n r = true) : n ≤ 8 ∧ (n = 0 ∨ r[0]? ≠ some 0) := of_decide_eq_true h

/-- the loop's rounds. -/
theorem val_round {w : World} {ad : Addr} {l : List Nat} {a j x : Nat} (hb : Bytes w w.heap.size (some ad) l) (hj : j < x) (hx : x ≤ 8) (hl : x ≤ (l.drop (a + 1)).length) :
    ∃ z : Nat, z < 256 ∧ w.cell? (ad.add (a + (j + 1))) = some (.int .u8 (z : Int)) ∧ val ((l.drop (a + 1)).take (j + 1)) = val ((l.drop (a + 1)).take j) * 256 + z ∧ val ((l.drop (a + 1)).take j) < 72057594037927936 := by
  have hlt : a + (j + 1) < l.length := by rw [List.length_drop] at hl; omega
  obtain ⟨ad', z, e, hz, hlz, hcell⟩ := hb.at_ hlt
  obtain rfl := Option.some.inj e
  refine ⟨z, hz, hcell, ?_, ?_⟩
  · rw [← val_snoc, ← take_snoc]
    rw [List.getElem?_drop]
    rw [show a + 1 + j = a + (j + 1) by omega]
    exact hlz
  · have h1 := val_lt (small_take (small_drop hb.1 (a + 1)) j)
    have h2 : 256 ^ ((l.drop (a + 1)).take j).length ≤ 256 ^ 7 := Nat.pow_le_pow_right (by decide) (by rw [List.length_take]; omega)
    exact Nat.lt_of_lt_of_le h1 h2

end Go.Proofs.Ytblgbbpbhcaodaa.Nu

/- The contracts of num's Append and of the document's: a new list of the bytes that came in and the number's bytes behind them; nothing that was there has changed. Condition: at most 2^47 - 4096 bytes came in. -/
namespace Go.Proofs.Ytblgbbpbhcaodaa.Nu
open Go.ChangeShapes Go.WideShapes Go.ChangeAt Go.RowKit
set_option linter.unusedVariables false
set_option maxRecDepth 4000

theorem byte_info : (Try.prog.info? 5).map (fun i => (i.zero, i.size, i.bytes)) = some (some (.int .u8 0), 1, 1) := by kernel_rfl
theorem byte_size : (Try.prog.info? 5).map (·.size) = some 1 := by kernel_rfl

/-- a call that answers a new list of these bytes. -/
def AppPost (w : World) (m : List Nat) (e : Ending) (w' : World) : Prop :=
  ∃ g cap n, e = .returned (.slice (some ⟨g, 0, none⟩) n cap) ∧ m.length = n ∧ w.heap.size ≤ g ∧ w'.ownsRow w.heap.size 5 1 (.slice (some ⟨g, 0, none⟩) n cap) n (vals m) ∧ Below w.heap.size w w'

/-- what holds at each round's head. -/
def Rel (w : World) (l : List Nat) (v : Nat) (s i : Value) (wr : World) : Prop :=
  ∃ (k : Nat) (D : List Nat) (g cap n : Nat), k + D.length = blen v ∧ D ++ dig k v = dig (blen v) v ∧ i = .int .i64 ((k : Int) - 1) ∧ s = .slice (some ⟨g, 0, none⟩) n cap ∧ n = l.length + 1 + D.length ∧
    wr.ownsRow w.heap.size 5 1 (.slice (some ⟨g, 0, none⟩) n cap) n (vals (l ++ blen v :: D)) ∧ Below w.heap.size w wr

/-- what a step of the list leaves. -/
theorem own_shape {w w1 : World} {B n : Nat} {v1 : Value} {xs : List Value} (hown : w1.ownsRow B 5 1 v1 n xs) (hn : 0 < n ∨ ¬ v1 = .slice none 0 0) : ∃ g cap, v1 = .slice (some ⟨g, 0, none⟩) n cap ∧ B ≤ g := by
  rcases hown.2 with ⟨h, hz⟩ | ⟨g, cap, _, e, hg, _⟩
  · rcases hn with hn | hn
    · omega
    · exact absurd h hn
  · exact ⟨g, cap, e, hg⟩

theorem cell_one (w : World) (x : Value) (t : TypeId) : ∀ (j : Nat) (u : Value), [x][j]? = some u → (w.alloc (.cells #[x] t)).cell? ((⟨w.heap.size, 0, none⟩ : Addr).add j) = some u := by
  intro j u hu
  cases j with
  | zero =>
    rw [zero_add, World.cell?_alloc_new]
    simpa using hu
  | succ j => simp at hu

theorem rel_start {w w1 : World} {l : List Nat} {v g cap n : Nat} (hn : n = l.length + 1) (h : w1.ownsRow w.heap.size 5 1 (.slice (some ⟨g, 0, none⟩) n cap) n (vals (l ++ [blen v]))) (hb : Below w.heap.size w w1) :
    Rel w l v (.slice (some ⟨g, 0, none⟩) n cap) (.int .i64 ((blen v : Int) - 1)) w1 :=
  ⟨blen v, [], g, cap, n, by simp, by simp, rfl, rfl, by simpa using hn, h, hb⟩
theorem rel_end {w wr : World} {l : List Nat} {v g cap n : Nat} {D : List Nat} (h1 : 0 + D.length = blen v) (h2 : D ++ dig 0 v = dig (blen v) v) (hn : n = l.length + 1 + D.length)
    (h : wr.ownsRow w.heap.size 5 1 (.slice (some ⟨g, 0, none⟩) n cap) n (vals (l ++ blen v :: D))) (hb : Below w.heap.size w wr) :
    AppPost w (l ++ enc v) (.returned (.slice (some ⟨g, 0, none⟩) n cap)) wr := by
  have e : D = dig (blen v) v := by rw [← h2]; simp [dig]
  refine ⟨g, cap, n, rfl, ?_, (h.lt g rfl).1, ?_, hb⟩
  · rw [List.length_append, enc_length]; omega
  · unfold enc; rw [← e]; exact h
theorem rel_step {w wr : World} {l : List Nat} {v g cap n j b : Nat} {D : List Nat} (h1 : j + 1 + D.length = blen v) (h2 : D ++ dig (j + 1) v = dig (blen v) v) (hb1 : b = v / 256 ^ j % 256) (hn : n = l.length + 1 + D.length + 1)
    (h : wr.ownsRow w.heap.size 5 1 (.slice (some ⟨g, 0, none⟩) n cap) n (vals (l ++ blen v :: D) ++ vals [b])) (hb : Below w.heap.size w wr) :
    Rel w l v (.slice (some ⟨g, 0, none⟩) n cap) (.int .i64 ((j : Int) - 1)) wr := by
  refine ⟨j, D ++ [b], g, cap, n, by simp; omega, ?_, rfl, rfl, by simp; omega, ?_, hb⟩
  · rw [← h2, hb1]; simp [dig]
  · rw [← vals_append] at h
    simpa using h

/-- the bytes copied into a new row with room behind them. -/
theorem copied (w : World) (A : Option Addr) (l : List Nat) (n c cap : Nat) (hn : l.length = n) (hcap : n ≤ cap) (hm : cap ≤ maxLen) (hb : Bytes w w.heap.size A l) :
    ∃ w2, (Builtin.copy_ #[25, 25] 3 #[.slice (some ⟨w.heap.size, 0, none⟩) n cap, .slice A n c]).run Try.prog (w.alloc (.cells (madeCells #[.int .u8 0] cap) 5)) = .ok (.int .i64 (n : Int)) w2 ∧
      w2.ownsRow w.heap.size 5 1 (.slice (some ⟨w.heap.size, 0, none⟩) n cap) n (vals l) ∧ Below w.heap.size w w2 := by
  have hg : (w.alloc (.cells (madeCells #[.int .u8 0] cap) 5)).heap[w.heap.size]? = some (.cells (madeCells #[.int .u8 0] cap) 5 (0, 0)) := heap_alloc_new w _
  by_cases h0 : n = 0
  · subst h0
    obtain rfl := List.eq_nil_of_length_eq_zero hn
    refine ⟨_, run_copy_none (P := Try.prog) _ 25 25 3 5 _ _ _ _ _ _ Try.underlying25 byte_size rfl, ⟨rfl, .inr ⟨_, cap, _, rfl, Nat.le_refl _, hg, Nat.zero_le _, hm, by simp [madeCells], by simp [vals]⟩⟩, below_new w _⟩
  · obtain ⟨ad, rfl, hadb, hc⟩ := hb.2 (by omega)
    have hr := run_copy_row (P := Try.prog) (w.alloc (.cells (madeCells #[.int .u8 0] cap) 5)) 25 25 3 5 w.heap.size 0 n cap ad n c (madeCells #[.int .u8 0] cap) 5 (vals l) Try.underlying25 byte_size hg (by rw [vals_length, hn]; exact (Nat.min_self n).symm)
      (fun j u hu => by
        rw [vals_get] at hu
        obtain ⟨x, hx, rfl⟩ := Option.map_eq_some_iff.1 hu
        exact (World.cell?_alloc_lt _ _ _ (by rw [block_add]; exact hadb)).trans (hc j x hx))
      (by rw [vals_length, size_madeCells]; omega) (vals_one l)
    rw [vals_length, hn] at hr
    refine ⟨_, hr, ⟨by rw [vals_length]; omega, .inr ⟨_, cap, _, rfl, Nat.le_refl _, setRow_heap _ _ _ _ 5 _ hg, hcap, hm, ?_, ?_⟩⟩, below_setRow (below_new w _) (Nat.le_refl _) _⟩
    · simp [size_madeCells, vals_length]; omega
    · simp only [List.take_zero, List.nil_append, Nat.mul_one]
      rw [← hn, ← vals_length l]
      exact List.take_left

set_option maxHeartbeats 1600000 in
theorem append_any (w : World) (A : Option Addr) (l : List Nat) (n c v : Nat) (hn : l.length = n) (hb : Bytes w w.heap.size A l) (hl : n ≤ 140737488351232) (hv : v < 18446744073709551616) :
    Calls Try.prog 46 #[.slice A n c, .int .u64 (v : Int)] w (AppPost w (l ++ enc v)) := by
  obtain ⟨i0, hi0, hz0, hz1, hz2⟩ := info_parts byte_info
  have hB := Lib.hid hb
  have HN := Lib.hid hn
  clear hb hn
  have hbl := blen_le v
  obtain ⟨B, hBe⟩ : ∃ B, blen v = B := ⟨_, rfl⟩
  have HBe := Lib.hid hBe
  rw [hBe] at hbl
  clear hBe
  go_enter Try.func46, Try.ntmps46
  go_wp2_with fail
  refine (Sh.size_c v _ hv).mono ?_
  rintro e w' ⟨rfl, rfl⟩
  rw [HBe.out]
  have hmk := run_make (P := Try.prog) w 25 5 i0 (.int .u8 0) Try.underlying25 hi0 hz0 .i64 .i64 (n : Int) ((n : Int) + (1 + (B : Int))) (by omega) (by omega) (by rw [hz2]; omega) (by omega)
  have hmx : n + (1 + B) ≤ maxLen := by simp only [maxLen]; omega
  obtain ⟨w2, hcp, hown, hbel⟩ := copied w A l n c (n + (1 + B)) HN.out (by omega) hmx hB.out
  have HO := Lib.hid hown
  have HB := Lib.hid hbel
  clear hown hbel hmx
  go_wp2_with fail
  clear hmk hcp
  refine (Sh.len_c v _ hv).mono ?_
  rintro e w' ⟨rfl, rfl⟩
  rw [HBe.out]
  go_wp2_with (
    (at_builtin
     refine wpList_append_own _ rfl (.tmp 21) (.tmp 24) 25 rfl w.heap.size 5 i0 (.int .u8 0) 1 1 Try.underlying25 hi0 hz0 hz1 hz2 rfl (by decide) (.slice (some ⟨w.heap.size, 0, none⟩) n (n + (1 + B))) n (vals l) rfl (HO.out.alloc _) ⟨w2.heap.size, 0, none⟩ 1 1 (vals [B]) rfl rfl (cell_one w2 _ 5) (vals_one _) (by simp only [maxLen]; omega) (by omega) (Nat.le_trans HB.out.size (by simp)) ?_
     intro v1 w3 hown1 hg1 hat1))
  obtain ⟨g, cap, rfl, hgw⟩ := own_shape (w := w) hown1 (.inl (by omega))
  have hbel3 : Below w.heap.size w w3 := (HB.out.alloc HB.out.size _).grown hg1 (Nat.le_trans HB.out.size (by simp)) (fun k hk => by simp [Value.ownBlock] at hk; omega)
  have HR : Hid (Rel w l v (.slice (some ⟨g, 0, none⟩) (n + 1) cap) (.int .i64 ((B : Int) - 1)) w3) := by
    have := rel_start (w := w) (l := l) (v := v) (by rw [HN.out]) (by rw [HBe.out, vals_append]; exact hown1) hbel3
    rw [HBe.out] at this
    exact this
  clear hown1 hg1 hat1 hbel3 HO HB
  go_loopw [5, 7] (fun s i wr => Rel w l v s i wr) (fun _ i _ => (intOf i + 1).toNat)
  case atStart => exact HR.out
  case round =>
    clear HR
    obtain ⟨k, D, g, cap, m, h1, h2, rfl, rfl, h3, hown, hbel⟩ := hrel
    have HO := Lib.hid hown
    have HB := Lib.hid hbel
    have H1 := Lib.hid h1
    have H2 := Lib.hid h2
    have H3 := Lib.hid h3
    have hk8 : k ≤ 8 := by have := blen_le v; omega
    have hm : m ≤ 140737488351232 + 9 := by have := blen_le v; have := HN.out; omega
    clear h1 h2 h3 hown hbel
    cases k with
    | zero =>
      go_wp2
      go_ret
      exact rel_end H1.out H2.out H3.out HO.out HB.out
    | succ j =>
      have hj : ((j + 1 : Nat) : Int) - 1 = (j : Int) := by omega
      rw [hj]
      have hj8 : j < 8 := by omega
      clear hj hk8
      go_wp2_with fail
      refine (Sh.byte_c v j _ hv hj8).mono ?_
      rintro e w' ⟨rfl, rfl⟩
      obtain ⟨b, hb⟩ : ∃ b, b = v / 256 ^ j % 256 := ⟨_, rfl⟩
      have HBB := Lib.hid hb
      rw [← hb]
      clear hb
      go_wp2_with (
        (at_builtin
         refine wpList_append_own _ rfl (.tmp 32) (.tmp 36) 25 rfl w.heap.size 5 i0 (.int .u8 0) 1 1 Try.underlying25 hi0 hz0 hz1 hz2 rfl (by decide) (.slice (some ⟨g, 0, none⟩) m cap) m (vals (l ++ blen v :: D)) rfl (HO.out.alloc _) ⟨wr.heap.size, 0, none⟩ 1 1 (vals [b]) rfl rfl (cell_one wr _ 5) (vals_one _) (by simp only [maxLen]; omega) (by omega) (Nat.le_trans HB.out.size (by simp)) ?_
         intro v1 w4 hown1 hg1 hat1))
      obtain ⟨g', cap', rfl, hgw'⟩ := own_shape (w := w) hown1 (.inl (by omega))
      have hgg := (HO.out.lt g rfl).1
      have hbel4 : Below w.heap.size w w4 := (HB.out.alloc HB.out.size _).grown hg1 (Nat.le_trans HB.out.size (by simp)) (fun k hk => by simp [Value.ownBlock] at hk; omega)
      have HR : Hid (Rel w l v (.slice (some ⟨g', 0, none⟩) (m + 1) cap') (.int .i64 ((j : Int) - 1)) w4) := rel_step H1.out H2.out HBB.out (by rw [H3.out]) hown1 hbel4
      clear hown1 hg1 hat1 hbel4
      go_wp2
      go_roundw
      case rel => exact HR.out
      case measure => simp [intOf]

set_option maxHeartbeats 1600000 in
theorem rappend_any (w : World) (A : Option Addr) (l : List Nat) (n c v : Nat) (hn : l.length = n) (hA : A = none → n = 0 ∧ c = 0) (hb : Bytes w w.heap.size A l) (hl : n ≤ 140737488351232) (hv : v < 18446744073709551616) :
    Calls Try.prog 23 #[.slice A n c, .int .u64 (v : Int)] w (AppPost w (l ++ enc v)) := by
  obtain ⟨i0, hi0, hz0, hz1, hz2⟩ := info_parts byte_info
  have hB := Lib.hid hb
  have HN := Lib.hid hn
  clear hb hn
  have hbl := blen_le v
  obtain ⟨B, hBe⟩ : ∃ B, blen v = B := ⟨_, rfl⟩
  have HBe := Lib.hid hBe
  rw [hBe] at hbl
  clear hBe
  cases A with
  | none =>
    obtain ⟨rfl, rfl⟩ := hA rfl
    clear hA
    have HO : Hid ((w.alloc (.cells #[] 5)).ownsRow w.heap.size 5 1 (.slice (some ⟨w.heap.size, 0, none⟩) 0 0) 0 (vals l)) := by
      rw [List.eq_nil_of_length_eq_zero HN.out]
      exact World.ownsRow_lit w #[] 0 (Nat.le_refl _) (by simp [maxLen]) rfl
    have HB : Hid (Below w.heap.size w (w.alloc (.cells #[] 5))) := below_new w _
    go_enter Try.func23, Try.ntmps23
    go_wp2_with (
      (at_builtin
       refine wpList_append_own_none rfl (.tmp 8) (.tmp 9) 25 rfl w.heap.size 5 i0 1 Try.underlying25 hi0 (.slice (some ⟨w.heap.size, 0, none⟩) 0 0) 0 (vals l) rfl HO.out rfl ?_))
    generalize w.alloc (.cells #[] 5) = w2 at *
    refine (Sh.rlen_c v _ hv).mono ?_
    rintro e w' ⟨rfl, rfl⟩
    rw [HBe.out]
    go_wp2_with (
      (at_builtin
       refine wpList_append_own _ rfl (.tmp 13) (.tmp 16) 25 rfl w.heap.size 5 i0 (.int .u8 0) 1 1 Try.underlying25 hi0 hz0 hz1 hz2 rfl (by decide) (.slice (some ⟨w.heap.size, 0, none⟩) 0 0) 0 (vals l) rfl (HO.out.alloc _) ⟨w2.heap.size, 0, none⟩ 1 1 (vals [B]) rfl rfl (cell_one w2 _ 5) (vals_one _) (by simp only [maxLen]; omega) (by omega) (Nat.le_trans HB.out.size (by simp)) ?_
       intro v1 w3 hown1 hg1 hat1))
    obtain ⟨g, cap, rfl, hgw⟩ := own_shape (w := w) hown1 (.inl (by omega))
    have hbel3 : Below w.heap.size w w3 := (HB.out.alloc HB.out.size _).grown hg1 (Nat.le_trans HB.out.size (by simp)) (fun k hk => by simp [Value.ownBlock] at hk; omega)
    have HR : Hid (Rel w l v (.slice (some ⟨g, 0, none⟩) (0 + 1) cap) (.int .i64 ((B : Int) - 1)) w3) := by
      have := rel_start (w := w) (l := l) (v := v) (by rw [HN.out]) (by rw [HBe.out, vals_append]; exact hown1) hbel3
      rw [HBe.out] at this
      exact this
    clear hown1 hg1 hat1 hbel3 HO HB
    simp only [Nat.zero_add]
    go_loopw [5, 7] (fun s i wr => Rel w l v s i wr) (fun _ i _ => (intOf i + 1).toNat)
    case atStart => exact HR.out
    case round =>
      clear HR
      obtain ⟨k, D, g, cap, m, h1, h2, rfl, rfl, h3, hown, hbel⟩ := hrel
      have HO := Lib.hid hown
      have HB := Lib.hid hbel
      have H1 := Lib.hid h1
      have H2 := Lib.hid h2
      have H3 := Lib.hid h3
      have hk8 : k ≤ 8 := by have := blen_le v; omega
      have hm : m ≤ 140737488351232 + 9 := by have := blen_le v; have := HN.out; omega
      clear h1 h2 h3 hown hbel
      cases k with
      | zero =>
        go_wp2
        go_ret
        exact rel_end H1.out H2.out H3.out HO.out HB.out
      | succ j =>
        have hj : ((j + 1 : Nat) : Int) - 1 = (j : Int) := by omega
        rw [hj]
        have hj8 : j < 8 := by omega
        clear hj hk8
        go_wp2_with fail
        refine (Sh.rbyte_c v j _ hv hj8).mono ?_
        rintro e w' ⟨rfl, rfl⟩
        obtain ⟨b, hb⟩ : ∃ b, b = v / 256 ^ j % 256 := ⟨_, rfl⟩
        have HBB := Lib.hid hb
        rw [← hb]
        clear hb
        go_wp2_with (
          (at_builtin
           refine wpList_append_own _ rfl (.tmp 24) (.tmp 28) 25 rfl w.heap.size 5 i0 (.int .u8 0) 1 1 Try.underlying25 hi0 hz0 hz1 hz2 rfl (by decide) (.slice (some ⟨g, 0, none⟩) m cap) m (vals (l ++ blen v :: D)) rfl (HO.out.alloc _) ⟨wr.heap.size, 0, none⟩ 1 1 (vals [b]) rfl rfl (cell_one wr _ 5) (vals_one _) (by simp only [maxLen]; omega) (by omega) (Nat.le_trans HB.out.size (by simp)) ?_
           intro v1 w4 hown1 hg1 hat1))
        obtain ⟨g', cap', rfl, hgw'⟩ := own_shape (w := w) hown1 (.inl (by omega))
        have hgg := (HO.out.lt g rfl).1
        have hbel4 : Below w.heap.size w w4 := (HB.out.alloc HB.out.size _).grown hg1 (Nat.le_trans HB.out.size (by simp)) (fun k hk => by simp [Value.ownBlock] at hk; omega)
        have HR : Hid (Rel w l v (.slice (some ⟨g', 0, none⟩) (m + 1) cap') (.int .i64 ((j : Int) - 1)) w4) := rel_step H1.out H2.out HBB.out (by rw [H3.out]) hown1 hbel4
        clear hown1 hg1 hat1 hbel4
        go_wp2
        go_roundw
        case rel => exact HR.out
        case measure => simp [intOf]
  | some ad =>
    clear hA
    have HC : Hid (∀ j u, (vals l)[j]? = some u → (w.alloc (.cells #[] 5)).cell? (ad.add j) = some u) := by
      intro j u hu
      rw [vals_get] at hu
      obtain ⟨x, hx, rfl⟩ := Option.map_eq_some_iff.1 hu
      have hjl : j < l.length := (List.getElem?_eq_some_iff.1 hx).1
      obtain ⟨ad', e, hadb, hc⟩ := hB.out.2 (by omega)
      obtain rfl := Option.some.inj e
      exact (World.cell?_alloc_lt _ _ _ (by rw [block_add]; exact hadb)).trans (hc j x hx)
    go_enter Try.func23, Try.ntmps23
    go_wp2_with (
      (at_builtin
       refine wpList_append_own _ rfl (.tmp 8) (.tmp 9) 25 rfl w.heap.size 5 i0 (.int .u8 0) 1 1 Try.underlying25 hi0 hz0 hz1 hz2 rfl (by decide) (.slice (some ⟨w.heap.size, 0, none⟩) 0 0) 0 [] rfl (World.ownsRow_lit w #[] 0 (Nat.le_refl _) (by simp [maxLen]) rfl) ad n c (vals l) rfl (by rw [vals_length, HN.out, Nat.mul_one]) HC.out (vals_one l) (by simp only [maxLen]; omega) (by omega) (by simp) ?_
       intro v1 w2 hown1 hg1 hat1))
    simp only [Nat.zero_add, List.nil_append] at hown1
    obtain ⟨g0, cap0, rfl, hgw0⟩ := own_shape (w := w) hown1 (.inr (fun h => by simp at hat1; exact hat1 h))
    have hbel : Below w.heap.size w w2 := (below_new w _).grown hg1 (by simp) (fun k hk => by simp [Value.ownBlock] at hk; omega)
    have HO := Lib.hid hown1
    have HB := Lib.hid hbel
    clear hown1 hg1 hat1 hbel HC
    refine (Sh.rlen_c v _ hv).mono ?_
    rintro e w' ⟨rfl, rfl⟩
    rw [HBe.out]
    go_wp2_with (
      (at_builtin
       refine wpList_append_own _ rfl (.tmp 13) (.tmp 16) 25 rfl w.heap.size 5 i0 (.int .u8 0) 1 1 Try.underlying25 hi0 hz0 hz1 hz2 rfl (by decide) (.slice (some ⟨g0, 0, none⟩) n cap0) n (vals l) rfl (HO.out.alloc _) ⟨(w2).heap.size, 0, none⟩ 1 1 (vals [B]) rfl rfl (cell_one (w2) _ 5) (vals_one _) (by simp only [maxLen]; omega) (by omega) (Nat.le_trans HB.out.size (by simp)) ?_
       intro v1 w3 hown1 hg1 hat1))
    obtain ⟨g, cap, rfl, hgw⟩ := own_shape (w := w) hown1 (.inl (by omega))
    have hbel3 : Below w.heap.size w w3 := (HB.out.alloc HB.out.size _).grown hg1 (Nat.le_trans HB.out.size (by simp)) (fun k hk => by simp [Value.ownBlock] at hk; omega)
    have HR : Hid (Rel w l v (.slice (some ⟨g, 0, none⟩) (n + 1) cap) (.int .i64 ((B : Int) - 1)) w3) := by
      have := rel_start (w := w) (l := l) (v := v) (by rw [HN.out]) (by rw [HBe.out, vals_append]; exact hown1) hbel3
      rw [HBe.out] at this
      exact this
    clear hown1 hg1 hat1 hbel3 HO HB
    go_loopw [5, 7] (fun s i wr => Rel w l v s i wr) (fun _ i _ => (intOf i + 1).toNat)
    case atStart => exact HR.out
    case round =>
      clear HR
      obtain ⟨k, D, g, cap, m, h1, h2, rfl, rfl, h3, hown, hbel⟩ := hrel
      have HO := Lib.hid hown
      have HB := Lib.hid hbel
      have H1 := Lib.hid h1
      have H2 := Lib.hid h2
      have H3 := Lib.hid h3
      have hk8 : k ≤ 8 := by have := blen_le v; omega
      have hm : m ≤ 140737488351232 + 9 := by have := blen_le v; have := HN.out; omega
      clear h1 h2 h3 hown hbel
      cases k with
      | zero =>
        go_wp2
        go_ret
        exact rel_end H1.out H2.out H3.out HO.out HB.out
      | succ j =>
        have hj : ((j + 1 : Nat) : Int) - 1 = (j : Int) := by omega
        rw [hj]
        have hj8 : j < 8 := by omega
        clear hj hk8
        go_wp2_with fail
        refine (Sh.rbyte_c v j _ hv hj8).mono ?_
        rintro e w' ⟨rfl, rfl⟩
        obtain ⟨b, hb⟩ : ∃ b, b = v / 256 ^ j % 256 := ⟨_, rfl⟩
        have HBB := Lib.hid hb
        rw [← hb]
        clear hb
        go_wp2_with (
          (at_builtin
           refine wpList_append_own _ rfl (.tmp 24) (.tmp 28) 25 rfl w.heap.size 5 i0 (.int .u8 0) 1 1 Try.underlying25 hi0 hz0 hz1 hz2 rfl (by decide) (.slice (some ⟨g, 0, none⟩) m cap) m (vals (l ++ blen v :: D)) rfl (HO.out.alloc _) ⟨wr.heap.size, 0, none⟩ 1 1 (vals [b]) rfl rfl (cell_one wr _ 5) (vals_one _) (by simp only [maxLen]; omega) (by omega) (Nat.le_trans HB.out.size (by simp)) ?_
           intro v1 w4 hown1 hg1 hat1))
        obtain ⟨g', cap', rfl, hgw'⟩ := own_shape (w := w) hown1 (.inl (by omega))
        have hgg := (HO.out.lt g rfl).1
        have hbel4 : Below w.heap.size w w4 := (HB.out.alloc HB.out.size _).grown hg1 (Nat.le_trans HB.out.size (by simp)) (fun k hk => by simp [Value.ownBlock] at hk; omega)
        have HR : Hid (Rel w l v (.slice (some ⟨g', 0, none⟩) (m + 1) cap') (.int .i64 ((j : Int) - 1)) w4) := rel_step H1.out H2.out HBB.out (by rw [H3.out]) hown1 hbel4
        clear hown1 hg1 hat1 hbel4
        go_wp2
        go_roundw
        case rel => exact HR.out
        case measure => simp [intOf]
end Go.Proofs.Ytblgbbpbhcaodaa.Nu

/- Words for the memory that the claims of layer pack speak of: a block that is just these cells, a world in which one block alone has turned; and the plain functions that say what a reader tells and what is left to it. No program is walked here. -/
namespace Go.Proofs.Ytblgbbpbhcaodaa.Nu
open Go.ChangeShapes Go.WideShapes Go.ChangeAt Go.RowKit
set_option linter.unusedVariables false
set_option maxRecDepth 4000

/-- block g is these cells, of the type t, and may be written. -/
def At (w : World) (g : Nat) (t : TypeId) (cs : Array Value) : Prop := w.heap[g]? = some (.cells cs t (0, 0))
theorem At.lt {w : World} {g : Nat} {t : TypeId} {cs : Array Value} (h : At w g t cs) : g < w.heap.size := by
  rcases Nat.lt_or_ge g w.heap.size with hl | hl
  · exact hl
  · unfold At at h; rw [Array.getElem?_eq_none hl] at h; cases h
theorem At.cell {w : World} {g : Nat} {t : TypeId} {cs : Array Value} (h : At w g t cs) (i : Nat) : w.cell? ⟨g, i, none⟩ = cs[i]? := cell_of_row w g i cs t (0, 0) h
theorem At.frozen {w : World} {g : Nat} {t : TypeId} {cs : Array Value} (h : At w g t cs) (i : Nat) : w.frozen? ⟨g, i, none⟩ = false := by
  unfold At at h
  simp [World.frozen?, h]
theorem At.new (w : World) (t : TypeId) (cs : Array Value) : At (w.alloc (.cells cs t)) w.heap.size t cs := heap_alloc_new w _
theorem At.kept {w w' : World} {g : Nat} {t : TypeId} {cs : Array Value} {row : Option Nat} (h : At w g t cs) (hg : w.grownBy w' row) (hne : some g ≠ row) : At w' g t cs := (hg.block g h.lt hne).trans h
theorem At.below {w w' : World} {g B : Nat} {t : TypeId} {cs : Array Value} (h : At w g t cs) (hb : Below B w w') (hg : g < B) : At w' g t cs := (hb.block g hg).trans h
theorem At.set {w : World} {g : Nat} {t : TypeId} {cs : Array Value} (h : At w g t cs) (i : Nat) (u : Value) : At (w.setCell ⟨g, i, none⟩ u) g t (cs.setIfInBounds i u) := by
  unfold At at h ⊢
  simp [World.setCell, Array.getElem?_modify, h]

theorem turn_refl (w : World) (row : Option Nat) : w.grownBy w row := ⟨rfl, rfl, rfl, Nat.le_refl _, fun _ _ _ => rfl⟩
theorem turn_drewN (w : World) (n : Nat) (row : Option Nat) : w.grownBy (w.drewN n) row := ⟨rfl, rfl, rfl, Nat.le_refl _, fun _ _ _ => rfl⟩
theorem turn_set (w : World) (g i : Nat) (u : Value) : w.grownBy (w.setCell ⟨g, i, none⟩ u) (some g) :=
  ⟨rfl, rfl, rfl, by simp [World.setCell], fun k _ hne => Below.heap_setCell w ⟨g, i, none⟩ u k (fun e => hne (by rw [e]))⟩
theorem turn_below {w w' : World} (h : Below w.heap.size w w') (row : Option Nat) : w.grownBy w' row := ⟨h.os, h.tape, h.output, h.size, fun i hi _ => h.block i hi⟩
theorem Bytes.kept {w w' : World} {B : Nat} {A : Option Addr} {l : List Nat} {row : Option Nat} (h : Bytes w B A l) (hg : w.grownBy w' row) (hB : B ≤ w.heap.size) (hr : ∀ k, row = some k → B ≤ k) : Bytes w' B A l :=
  h.below ((Below.refl B w).grown hg hB hr)

/-- the first error stays. -/
def stopE (e f : Nat) : Nat := if e = 0 then f else e
theorem stop_zero (f : Nat) : stopE 0 f = f := if_pos rfl
theorem stop_some {e : Nat} (h : e ≠ 0) (f : Nat) : stopE e f = e := if_neg h
/-- the number that stands ahead, what is behind it, and the error. -/
def numV : List Nat → Nat
  | [] => 0
  | x :: r => if form x r = true ∧ x ≤ r.length then val (r.take x) else 0
def numL : List Nat → List Nat
  | [] => []
  | x :: r => if form x r = true ∧ x ≤ r.length then r.drop x else []
def numE : List Nat → Nat
  | [] => 2
  | x :: r => if form x r = true then (if x ≤ r.length then 0 else 2) else 4
def uptoV (m : Nat) (l : List Nat) : Nat := if m < numV l then 0 else numV l
def uptoL (m : Nat) (l : List Nat) : List Nat := if m < numV l then [] else numL l
def uptoE (m : Nat) (l : List Nat) (e : Nat) : Nat := if m < numV l then stopE (stopE e (numE l)) 4 else stopE e (numE l)
def takeV (k : Nat) (l : List Nat) : List Nat := if k ≤ l.length then l.take k else []
def takeL (k : Nat) (l : List Nat) : List Nat := if k ≤ l.length then l.drop k else []
def takeE (k : Nat) (l : List Nat) (e : Nat) : Nat := if k ≤ l.length then e else stopE e 2
def byteV : List Nat → Nat
  | [] => 0
  | x :: _ => x
def byteL : List Nat → List Nat
  | [] => []
  | _ :: r => r
def byteE (l : List Nat) (e : Nat) : Nat := if l = [] then stopE e 2 else e
def flagV (l : List Nat) : Bool := decide (byteV l = 1)
def flagL (l : List Nat) : List Nat := if byteV l ≤ 1 then byteL l else []
def flagE (l : List Nat) (e : Nat) : Nat := if byteV l ≤ 1 then byteE l e else stopE (byteE l e) 4
def textV (m : Int) (l : List Nat) : List Nat := if m.toNat < numV l then [] else takeV (numV l) (numL l)
def textL (m : Int) (l : List Nat) : List Nat := if m.toNat < numV l then [] else takeL (numV l) (numL l)
def textE (m : Int) (l : List Nat) (e : Nat) : Nat := if m.toNat < numV l then stopE (stopE e (numE l)) 3 else takeE (numV l) (numL l) (stopE e (numE l))
def endE (l : List Nat) (e : Nat) : Nat := if l = [] then e else stopE e 4

theorem numV_cons (x : Nat) (r : List Nat) : numV (x :: r) = if form x r = true ∧ x ≤ r.length then val (r.take x) else 0 := rfl
theorem numL_cons (x : Nat) (r : List Nat) : numL (x :: r) = if form x r = true ∧ x ≤ r.length then r.drop x else [] := rfl
theorem numE_cons (x : Nat) (r : List Nat) : numE (x :: r) = if form x r = true then (if x ≤ r.length then 0 else 2) else 4 := rfl
theorem what_num {x : Nat} {r : List Nat} {a v y f : Nat} (h : What x r a v y f) : numV (x :: r) = v ∧ numE (x :: r) = f ∧ (f = 0 → form x r = true ∧ x ≤ r.length ∧ y = a + 1 + x ∧ numL (x :: r) = r.drop x) ∧ (f ≠ 0 → v = 0 ∧ numL (x :: r) = []) := by
  rw [numV_cons, numE_cons, numL_cons]
  cases h with
  | form h => simp [h]
  | short h hl =>
    have : ¬ x ≤ r.length := by omega
    simp [h, this]
  | ok h hl => simp [h, hl]
theorem numV_lt {l : List Nat} (hs : Small l) : numV l < 18446744073709551616 := by
  cases l with
  | nil => decide
  | cons x r =>
    rw [numV_cons]
    by_cases h : form x r = true ∧ x ≤ r.length
    · rw [if_pos h]
      have hx : x ≤ 8 := (form_true h.1).1
      have h1 := val_lt (small_take (fun y hy => hs y (List.mem_cons_of_mem _ hy) : Small r) x)
      have h2 : 256 ^ (r.take x).length ≤ 256 ^ 8 := Nat.pow_le_pow_right (by decide) (by rw [List.length_take]; omega)
      exact Nat.lt_of_lt_of_le h1 h2
    · rw [if_neg h]; decide
theorem numE_le (l : List Nat) : numE l ≤ 4 := by
  cases l with
  | nil => decide
  | cons x r =>
    rw [numE_cons]
    split
    · split <;> omega
    · omega
theorem numL_bad {l : List Nat} (h : numE l ≠ 0) : numL l = [] ∧ numV l = 0 := by
  cases l with
  | nil => exact ⟨rfl, rfl⟩
  | cons x r =>
    have hn : ¬ (form x r = true ∧ x ≤ r.length) := by
      rintro ⟨a, b⟩
      exact h (by rw [numE_cons, if_pos a, if_pos b])
    rw [numL_cons, numV_cons, if_neg hn, if_neg hn]
    exact ⟨rfl, rfl⟩
theorem byteV_lt {l : List Nat} (hs : Small l) : byteV l < 256 := by
  cases l with
  | nil => decide
  | cons x r => exact hs x List.mem_cons_self
end Go.Proofs.Ytblgbbpbhcaodaa.Nu
