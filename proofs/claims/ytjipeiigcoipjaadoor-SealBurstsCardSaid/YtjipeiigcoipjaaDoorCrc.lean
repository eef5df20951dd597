/- The contracts of layer crc's functions and of the document's answers for them, as layer seal calls them: what each call returns; the world stays as it was. They ask that crc's table of sixteen numbers lies in its variable. -/
import Derived.Test.YtjipeiigcoipjaaDoorRows
import Derived.Test.YtjipeiigcoipjaaDoorSum
import Derived.WalkKit
import Derived.ProofKit
import Derived.OpenShut
import Derived.Lib.Hide
import Derived.Laws.BitsAllLaws
import Derived.Below
import Derived.Outline
import Derived.Lib.SlBytesConst
namespace Go.Proofs.YtjipeiigcoipjaaDoor.Se
open Go.ChangeShapes Go.WideShapes Go.ChangeAt Go.RowKit
set_option linter.unusedVariables false

theorem ret_int {k : IntKind} {a b : Int} (h : a = b) : Ending.returned (.int k a) = .returned (.int k b) := by rw [h]

/-- the table lies in its variable. -/
def Tab (w : World) : Prop := ∀ i, i < 16 → w.cell? ⟨0, i, none⟩ = some (.int .u32 ((Crc.tab.getD i 0 : Nat) : Int))

theorem and15 (v : Nat) (hv : v < 4294967296) : bits .and .u32 (v : Int) 15 = ((v % 16 : Nat) : Int) := by
  rw [show (15 : Int) = ((15 : Nat) : Int) from rfl, u32_and_nat v 15 hv (by decide)]
  have h : v &&& 15 = v % 16 := Nat.and_two_pow_sub_one_eq_mod v 4
  rw [h]

theorem tab_lt (r : Nat) (h : r < 16) : Crc.tab[r]?.getD 0 < 4294967296 := by
  have key : ∀ r : Fin 16, Crc.tab[r.1]?.getD 0 < 4294967296 := by decide +kernel
  exact key ⟨r, h⟩

theorem halve_ret (v : Nat) (hv : v < 4294967296) : bits .xor .u32 ((v : Int) / 16) ((Crc.tab[v % 16]?.getD 0 : Nat) : Int) = ((Crc.halves 4 v : Nat) : Int) := by
  have h := Crc.four v
  rw [List.getD_eq_getElem?_getD] at h
  rw [show (v : Int) / 16 = ((v / 16 : Nat) : Int) by omega, u32_xor_nat _ _ (by omega) (tab_lt _ (Nat.mod_lt _ (by decide))), h]

theorem halve_any (v : Nat) (w : World) (hv : v < 4294967296) (ht : Tab w) :
    Calls Tryd.prog 26 #[.int .u32 (v : Int)] w fun e w' => e = .returned (.int .u32 ((Crc.halves 4 v : Nat) : Int)) ∧ w = w' := by
  have hm := and15 v hv
  have hlt : v % 16 < 16 := Nat.mod_lt _ (by decide)
  have hc := ht (v % 16) hlt
  clear ht
  go_enter Tryd.func26, Tryd.ntmps26
  go_wp2
  go_ret
  exact ⟨ret_int (halve_ret v hv), rfl⟩

theorem xor_byte (c x : Nat) (hc : c < 4294967296) (hx : x < 256) : bits .xor .u32 (c : Int) (x : Int) = ((c ^^^ x : Nat) : Int) := u32_xor_nat c x hc (by omega)
theorem xor_lt {c x : Nat} (hc : c < 4294967296) (hx : x < 4294967296) : c ^^^ x < 4294967296 := Nat.xor_lt_two_pow (n := 32) hc hx
theorem halves_succ (k c : Nat) : Crc.halves (k + 1) c = Crc.half (Crc.halves k c) := Crc.halves_add k 1 c
theorem half_odd (m : Nat) (hm : m < 4294967296) (h : m % 2 = 1) : bits .xor .u32 ((m : Int) / 2) 3988292384 = ((Crc.half m : Nat) : Int) := by
  rw [show (m : Int) / 2 = ((m / 2 : Nat) : Int) by omega, show (3988292384 : Int) = ((3988292384 : Nat) : Int) from rfl, u32_xor_nat _ _ (by omega) (by decide)]
  unfold Crc.half
  rw [if_pos h]
theorem half_even (m : Nat) (h : ¬ m % 2 = 1) : (m : Int) / 2 = ((Crc.half m : Nat) : Int) := by
  unfold Crc.half
  rw [if_neg h]
  omega

theorem step_any (c x : Nat) (w : World) (hc : c < 4294967296) (hx : x < 256) :
    Calls Tryd.prog 24 #[.int .u32 (c : Int), .int .u8 (x : Int)] w fun e w' => e = .returned (.int .u32 ((Crc.byte c x : Nat) : Int)) ∧ w = w' := by
  have h0 := xor_byte c x hc hx
  have hb := Lib.hid (Crc.byte_eq c x)
  have hy := xor_lt hc (show x < 4294967296 by omega)
  go_enter Tryd.func24, Tryd.ntmps24
  go_wp2
  clear h0
  generalize hyy : c ^^^ x = y at *
  go_loop [0, 5] (fun v i => ∃ k : Nat, k ≤ 8 ∧ i = .int .i64 k ∧ v = .int .u32 ((Crc.halves k y : Nat) : Int)) (fun _ i => 8 - (intOf i).toNat)
  case atStart => exact ⟨0, by omega, rfl, rfl⟩
  case round =>
    obtain ⟨k, hk, rfl, rfl⟩ := hrel
    have hm := Crc.halves_lt k hy
    have hs := Lib.hid (halves_succ k y)
    by_cases hlt : k < 8
    · generalize Crc.halves k y = m at *
      by_cases hodd : m % 2 = 1
      · have ht : ((m : Int) % 2 == 1) = true := by rw [beq_iff_eq]; omega
        have he := Lib.hid (half_odd m hm hodd)
        clear hodd
        go_wp2
        go_round
        case rel => exact ⟨k + 1, by omega, by go_num, by rw [hs.out, he.out]⟩
        case measure => simp [intOf]; omega
      · have ht : ((m : Int) % 2 == 1) = false := by rw [beq_eq_false_iff_ne]; omega
        have he := Lib.hid (half_even m hodd)
        clear hodd
        go_wp2
        go_round
        case rel => exact ⟨k + 1, by omega, by go_num, by rw [hs.out, he.out]⟩
        case measure => simp [intOf]; omega
    · obtain rfl : k = 8 := by omega
      go_wp2
      go_ret
      exact ⟨ret_int (by rw [hb.out]), rfl⟩

/-- a slice of the address A that holds these bytes, and lies below block B. -/
def Bytes (w : World) (B : Nat) (A : Option Addr) (l : List Nat) : Prop :=
  Crc.Small l ∧ (0 < l.length → ∃ ad : Addr, A = some ad ∧ ad.block < B ∧ ∀ (j x : Nat), l[j]? = some x → w.cell? (ad.add j) = some (.int .u8 (x : Int)))

theorem Bytes.at_ {w : World} {B : Nat} {A : Option Addr} {l : List Nat} (h : Bytes w B A l) {k : Nat} (hk : k < l.length) :
    ∃ (ad : Addr) (x : Nat), A = some ad ∧ x < 256 ∧ l[k]? = some x ∧ w.cell? (ad.add k) = some (.int .u8 (x : Int)) := by
  obtain ⟨ad, e, _, hc⟩ := h.2 (by omega)
  exact ⟨ad, l[k], e, h.1 _ (List.getElem_mem hk), List.getElem?_eq_getElem hk, hc k _ (List.getElem?_eq_getElem hk)⟩

theorem take_snoc {l : List Nat} {k x : Nat} (h : l[k]? = some x) : l.take (k + 1) = l.take k ++ [x] := by
  rw [List.take_add_one, h]; rfl
theorem small_take {l : List Nat} (h : Crc.Small l) (k : Nat) : Crc.Small (l.take k) := fun x hx => h x (List.mem_of_mem_take hx)

theorem inv_xor (s : Nat) (hs : s < 4294967296) : bits .xor .u32 (s : Int) 4294967295 = ((Crc.inv s : Nat) : Int) := by
  rw [show (4294967295 : Int) = ((4294967295 : Nat) : Int) from rfl, u32_xor_nat _ _ hs (by decide)]; rfl

theorem inv_max (s : Nat) (hs : s < 4294967296) : bits .xor .u32 IntKind.u32.max (s : Int) = ((Crc.inv s : Nat) : Int) := by
  rw [show IntKind.u32.max = ((4294967295 : Nat) : Int) from rfl, u32_xor_nat _ _ (by decide) hs, Nat.xor_comm]; rfl

theorem more_any (s : Nat) (l : List Nat) (A : Option Addr) (B c : Nat) (w : World) (hs : s < 4294967296) (hl : l.length ≤ 9223372036854775807) (ht : Tab w) (hb : Bytes w B A l) :
    Calls Tryd.prog 25 #[.int .u32 (s : Int), .slice A l.length c] w fun e w' => e = .returned (.int .u32 ((Crc.more s l : Nat) : Int)) ∧ w = w' := by
  have hT := Lib.hid ht
  clear ht
  have hB := Lib.hid hb
  clear hb
  have hi := inv_max s hs
  go_enter Tryd.func25, Tryd.ntmps25
  go_wp2
  clear hi
  have hv0 := Crc.inv_lt hs
  have hM := Lib.hid (show Crc.more s l = Crc.inv (Crc.run (Crc.inv s) l) from rfl)
  generalize Crc.inv s = v0 at *
  go_loop [5, 12] (fun v i => ∃ k : Nat, k ≤ l.length ∧ i = .int .i64 k ∧ v = .int .u32 ((Crc.run v0 (l.take k) : Nat) : Int)) (fun _ i => l.length - (intOf i).toNat)
  case atStart => exact ⟨0, Nat.zero_le _, rfl, by rw [List.take_zero, Crc.run_nil]⟩
  case round =>
    obtain ⟨k, hk, rfl, rfl⟩ := hrel
    have hm := Crc.run_lt (small_take hB.out.1 k) hv0
    by_cases hlt : k < l.length
    · obtain ⟨ad, x, rfl, hx, hlx, hcell⟩ := hB.out.at_ hlt
      have hsn := Crc.run_snoc v0 (l.take k) x
      rw [← take_snoc hlx] at hsn
      have HS := Lib.hid hsn
      clear hsn hlx
      generalize Crc.run v0 (l.take k) = m at *
      have hxb := xor_byte m x hm hx
      have hy := xor_lt hm (show x < 4294967296 by omega)
      have hE := Lib.hid ((Crc.byte_eq m x).trans (Crc.eight (m ^^^ x)).symm)
      go_wp2_with fail
      refine (halve_any (m ^^^ x) _ hy hT.out).mono ?_
      rintro e w' ⟨rfl, rfl⟩
      have hz := Crc.halves_lt 4 hy
      go_wp2_with fail
      refine (halve_any _ _ hz hT.out).mono ?_
      rintro e w' ⟨rfl, rfl⟩
      go_wp2
      go_round
      case rel => exact ⟨k + 1, by omega, by go_num, by rw [HS.out, hE.out]⟩
      case measure => simp [intOf]; omega
    · obtain rfl : k = l.length := by omega
      rw [List.take_length] at hm ⊢
      have hi := inv_max _ hm
      go_wp2
      go_ret
      exact ⟨ret_int (by rw [hM.out]), rfl⟩

theorem rmore_any (s : Nat) (l : List Nat) (A : Option Addr) (B c : Nat) (w : World) (hs : s < 4294967296) (hl : l.length ≤ 9223372036854775807) (hb : Bytes w B A l) :
    Calls Tryd.prog 18 #[.int .u32 (s : Int), .slice A l.length c] w fun e w' => e = .returned (.int .u32 ((Crc.more s l : Nat) : Int)) ∧ w = w' := by
  have hB := Lib.hid hb
  clear hb
  have hi := inv_xor s hs
  go_enter Tryd.func18, Tryd.ntmps18
  go_wp2
  clear hi
  have hv0 := Crc.inv_lt hs
  have hM := Lib.hid (show Crc.more s l = Crc.inv (Crc.run (Crc.inv s) l) from rfl)
  generalize Crc.inv s = v0 at *
  go_loop [5, 6] (fun v i => ∃ k : Nat, k ≤ l.length ∧ i = .int .i64 k ∧ v = .int .u32 ((Crc.run v0 (l.take k) : Nat) : Int)) (fun _ i => l.length - (intOf i).toNat)
  case atStart => exact ⟨0, Nat.zero_le _, rfl, by rw [List.take_zero, Crc.run_nil]⟩
  case round =>
    obtain ⟨k, hk, rfl, rfl⟩ := hrel
    have hm := Crc.run_lt (small_take hB.out.1 k) hv0
    by_cases hlt : k < l.length
    · obtain ⟨ad, x, rfl, hx, hlx, hcell⟩ := hB.out.at_ hlt
      have hsn := Crc.run_snoc v0 (l.take k) x
      rw [← take_snoc hlx] at hsn
      have HS := Lib.hid hsn
      clear hsn hlx
      generalize Crc.run v0 (l.take k) = m at *
      go_wp2_with fail
      refine (step_any m x _ hm hx).mono ?_
      rintro e w' ⟨rfl, rfl⟩
      go_wp2
      go_round
      case rel => exact ⟨k + 1, by omega, by go_num, by rw [HS.out]⟩
      case measure => simp [intOf]; omega
    · obtain rfl : k = l.length := by omega
      rw [List.take_length] at hm ⊢
      have hi := inv_xor _ hm
      go_wp2
      go_ret
      exact ⟨ret_int (by rw [hM.out]), rfl⟩

/-- one part: where its slice lies, its capacity, its bytes. -/
structure Part where
  a : Option Addr
  c : Nat
  l : List Nat

/-- a slice of the address A that holds these parts. -/
def Parts (w : World) (B : Nat) (A : Option Addr) (ps : List Part) : Prop :=
  (∀ p ∈ ps, Bytes w B p.a p.l ∧ p.l.length ≤ 9223372036854775807) ∧
    (0 < ps.length → ∃ ad : Addr, A = some ad ∧ ∀ (j : Nat) (p : Part), ps[j]? = some p → w.cell? (ad.add j) = some (.slice p.a p.l.length p.c))

theorem Parts.at_ {w : World} {B : Nat} {A : Option Addr} {ps : List Part} (h : Parts w B A ps) {k : Nat} (hk : k < ps.length) :
    ∃ (ad : Addr) (p : Part), A = some ad ∧ ps[k]? = some p ∧ Bytes w B p.a p.l ∧ p.l.length ≤ 9223372036854775807 ∧ w.cell? (ad.add k) = some (.slice p.a p.l.length p.c) := by
  obtain ⟨ad, e, hc⟩ := h.2 (by omega)
  obtain ⟨h1, h2⟩ := h.1 ps[k] (List.getElem_mem hk)
  exact ⟨ad, ps[k], e, List.getElem?_eq_getElem hk, h1, h2, hc k _ (List.getElem?_eq_getElem hk)⟩

/-- the sum of the first k parts. -/
def upto (ps : List Part) (k : Nat) : Nat := Crc.sums 0 ((ps.take k).map Part.l)

theorem upto_zero (ps : List Part) : upto ps 0 = 0 := rfl
theorem upto_succ {ps : List Part} {k : Nat} {p : Part} (h : ps[k]? = some p) : upto ps (k + 1) = Crc.more (upto ps k) p.l := by
  unfold upto
  rw [List.take_add_one, h]
  exact (congrArg (Crc.sums 0) (List.map_append ..)).trans (Crc.sums_snoc _ _ _)
theorem upto_lt {w : World} {B : Nat} {A : Option Addr} {ps : List Part} (h : Parts w B A ps) (k : Nat) : upto ps k < 4294967296 := by
  refine Crc.sums_lt (fun q hq => ?_) (by decide)
  obtain ⟨p, hp, rfl⟩ := List.mem_map.1 hq
  exact (h.1 p (List.mem_of_mem_take hp)).1.1
theorem upto_all (ps : List Part) : upto ps ps.length = Crc.sums 0 (ps.map Part.l) := by unfold upto; rw [List.take_length]

theorem of_any (ps : List Part) (A : Option Addr) (B c : Nat) (w : World) (hl : ps.length ≤ 9223372036854775807) (ht : Tab w) (hb : Parts w B A ps) :
    Calls Tryd.prog 23 #[.slice A ps.length c] w fun e w' => e = .returned (.int .u32 ((Crc.sums 0 (ps.map Part.l) : Nat) : Int)) ∧ w = w' := by
  have hT := Lib.hid ht
  clear ht
  have hB := Lib.hid hb
  clear hb
  go_enter Tryd.func23, Tryd.ntmps23
  go_wp2
  go_loop [3, 8] (fun v i => ∃ k : Nat, k ≤ ps.length ∧ i = .int .i64 k ∧ v = .int .u32 ((upto ps k : Nat) : Int)) (fun _ i => ps.length - (intOf i).toNat)
  case atStart => exact ⟨0, Nat.zero_le _, rfl, by rw [upto_zero]; rfl⟩
  case round =>
    obtain ⟨k, hk, rfl, rfl⟩ := hrel
    have hm := upto_lt hB.out k
    by_cases hlt : k < ps.length
    · obtain ⟨ad, p, rfl, hpk, hpb, hpl, hcell⟩ := hB.out.at_ hlt
      have HS := Lib.hid (upto_succ hpk)
      have HB := Lib.hid hpb
      clear hpk hpb
      generalize upto ps k = m at *
      go_wp2_with fail
      refine (more_any m p.l p.a B p.c _ hm hpl hT.out HB.out).mono ?_
      rintro e w' ⟨rfl, rfl⟩
      go_wp2
      go_round
      case rel => exact ⟨k + 1, by omega, by go_num, by rw [HS.out]⟩
      case measure => simp [intOf]; omega
    · obtain rfl : k = ps.length := by omega
      have hu := Lib.hid (upto_all ps)
      generalize upto ps ps.length = m at *
      go_wp2
      go_ret
      exact ⟨ret_int (by rw [hu.out]), rfl⟩

theorem block_add (a : Addr) (n : Nat) : (a.add n).block = a.block := by unfold Addr.add; split <;> rfl
theorem Tab.lt {w : World} (h : Tab w) : 0 < w.heap.size := by
  have h0 := h 0 (by decide)
  rcases Nat.eq_zero_or_pos w.heap.size with hz | hz
  · exfalso
    have hn : w.heap[0]? = none := Array.getElem?_eq_none (by omega)
    simp [World.cell?, hn] at h0
  · exact hz
theorem Tab.below {w w' : World} (h : Tab w) (hb : Below w.heap.size w w') : Tab w' := fun i hi => (hb.cell (p := ⟨0, i, none⟩) h.lt).trans (h i hi)
theorem Bytes.below {w w' : World} {B : Nat} {A : Option Addr} {l : List Nat} (h : Bytes w B A l) (hb : Below B w w') : Bytes w' B A l :=
  ⟨h.1, fun hl => by
    obtain ⟨ad, e, hB, hc⟩ := h.2 hl
    exact ⟨ad, e, hB, fun j x hx => (hb.cell (by rw [block_add]; exact hB)).trans (hc j x hx)⟩⟩
theorem Bytes.more {w : World} {B B' : Nat} {A : Option Addr} {l : List Nat} (h : Bytes w B A l) (hB : B ≤ B') : Bytes w B' A l :=
  ⟨h.1, fun hl => by
    obtain ⟨ad, e, hb, hc⟩ := h.2 hl
    exact ⟨ad, e, by omega, hc⟩⟩
theorem Bytes.none_ (w : World) (B : Nat) (A : Option Addr) : Bytes w B A [] := ⟨fun x hx => (by cases hx), fun h => absurd h (by simp)⟩
theorem below_new (w : World) (o : Obj) : Below w.heap.size w (w.alloc o) := (Below.refl _ _).alloc (Nat.le_refl _) o

/-- parts in a new block. -/
theorem parts_new (w : World) (ps : List Part) (cs : Array Value) (hcs : cs = (ps.map fun p => Value.slice p.a p.l.length p.c).toArray) (t : TypeId)
    (h : ∀ p ∈ ps, Bytes w w.heap.size p.a p.l ∧ p.l.length ≤ 9223372036854775807) :
    Parts (w.alloc (.cells cs t)) w.heap.size (some ⟨w.heap.size, 0, none⟩) ps := by
  subst hcs
  refine ⟨fun p hp => ⟨(h p hp).1.below (below_new w _), (h p hp).2⟩, fun _ => ⟨_, rfl, fun j p hj => ?_⟩⟩
  have e : (⟨w.heap.size, 0, none⟩ : Addr).add j = ⟨w.heap.size, j, none⟩ := by
    unfold Addr.add; split
    · rename_i hz; rw [hz]
    · simp
  rw [e, World.cell?_alloc_new]
  simp [hj]

theorem of_new (w : World) (ps : List Part) (cs : Array Value) (hcs : cs = (ps.map fun p => Value.slice p.a p.l.length p.c).toArray) (g n c : Nat) (hg : g = w.heap.size) (hn : n = ps.length) (h63 : ps.length ≤ 9223372036854775807) (s : Nat)
    (hs : Crc.sums 0 (ps.map Part.l) = s) (ht : Tab w) (h : ∀ p ∈ ps, Bytes w w.heap.size p.a p.l ∧ p.l.length ≤ 9223372036854775807) :
    Calls Tryd.prog 23 #[.slice (some ⟨g, 0, none⟩) n c] (w.alloc (.cells cs 22)) fun e w' => e = .returned (.int .u32 (s : Int)) ∧ w.alloc (.cells cs 22) = w' := by
  subst hg hn hs
  exact of_any ps _ w.heap.size c _ h63 (ht.below (below_new w _)) (parts_new w ps cs hcs 22 h)

end Go.Proofs.YtjipeiigcoipjaaDoor.Se
