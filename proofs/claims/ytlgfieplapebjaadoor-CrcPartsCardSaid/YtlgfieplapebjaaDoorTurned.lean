/- The contract of the document's 'Turned': the bytes that come out are those that went in with the bits of a number below 2^32 turned from a place on, and none are counted just where that number is 0. Conditions: at least one byte, fewer bytes than 2^47, the place below the text's end. -/
import Derived.Test.YtlgfieplapebjaaDoorCrc
import Derived.Laws.OwnMore
import Derived.OwnWalk
import Derived.Maps.AppendAt
namespace Go.Proofs.YtlgfieplapebjaaDoor.Cr
open Go.ChangeShapes Go.WideShapes Go.ChangeAt Go.RowKit
set_option linter.unusedVariables false

/-- bytes as cells. -/
def vals (l : List Nat) : List Value := l.map fun x : Nat => Value.int .u8 (x : Int)
theorem vals_length (l : List Nat) : (vals l).length = l.length := by unfold vals; simp
theorem vals_get (l : List Nat) (j : Nat) : (vals l)[j]? = l[j]?.map fun x : Nat => Value.int .u8 (x : Int) := by unfold vals; simp
theorem vals_set (l : List Nat) (j x : Nat) : (vals l).set j (.int .u8 (x : Int)) = vals (l.set j x) := by unfold vals; rw [List.map_set]
theorem vals_one (l : List Nat) : ∀ u ∈ vals l, u.oneCell' = true := by
  intro u hu
  obtain ⟨x, _, rfl⟩ := List.mem_map.1 hu
  rfl

def TurnedPost (w : World) (l : List Nat) (at_ : Nat) (e : Ending) (w' : World) : Prop :=
  ∃ (g cap x cnt : Nat) (l' : List Nat), e = .returned (.tuple #[.slice (some ⟨g, 0, none⟩) l.length cap, .int .i64 (cnt : Int)]) ∧ l'.length = l.length ∧ Bytes w' w'.heap.size (some ⟨g, 0, none⟩) l' ∧
    Crc.le l' = Crc.le l ^^^ 2 ^ at_ * x ∧ x < 4294967296 ∧ (cnt = 0 ↔ x = 0) ∧ Below w.heap.size w w'

theorem byte_info : (Tryd.prog.info? 5).map (fun i => (i.zero, i.size, i.bytes)) = some (some (.int .u8 0), 1, 1) := by kernel_rfl

/-- what holds at each round's head. -/
def Rel (w : World) (l : List Nat) (at_ g cap : Nat) (m n i : Value) (wr : World) : Prop :=
  ∃ (k M cnt x : Nat) (l' : List Nat), k ≤ 32 ∧ M < 4294967296 ∧ cnt ≤ k ∧ i = .int .i64 (k : Int) ∧ m = .int .u32 (M : Int) ∧ n = .int .i64 (cnt : Int) ∧ l'.length = l.length ∧ Crc.Small l' ∧
    Crc.le l' = Crc.le l ^^^ 2 ^ at_ * x ∧ x < 2 ^ k ∧ (cnt = 0 ↔ x = 0) ∧ wr.ownsRow w.heap.size 5 1 (.slice (some ⟨g, 0, none⟩) l.length cap) l.length (vals l') ∧ Below w.heap.size w wr

theorem rel_skip {w wr : World} {l l' : List Nat} {at_ g cap k M cnt x : Nat} (hk : k < 32) (hM : M < 4294967296) (hcnt : cnt ≤ k)
    (h : l'.length = l.length ∧ Crc.Small l' ∧ Crc.le l' = Crc.le l ^^^ 2 ^ at_ * x ∧ x < 2 ^ k ∧ (cnt = 0 ↔ x = 0) ∧ wr.ownsRow w.heap.size 5 1 (.slice (some ⟨g, 0, none⟩) l.length cap) l.length (vals l') ∧ Below w.heap.size w wr) :
    Rel w l at_ g cap (.int .u32 ((M : Int) / 2)) (.int .i64 (cnt : Int)) (.int .i64 ((k : Int) + 1)) wr := by
  obtain ⟨hlen, hsm, hle, hx, hiff, hown, hbel⟩ := h
  refine ⟨k + 1, M / 2, cnt, x, l', by omega, by omega, by omega, by go_num, by go_num, rfl, hlen, hsm, hle, ?_, hiff, hown, hbel⟩
  rw [Nat.pow_succ]; omega

theorem rel_turn {w wr : World} {l l' : List Nat} {at_ g cap k M cnt x kk q r y : Nat} (hk : k < 32) (hM : M < 4294967296) (hcnt : cnt ≤ k) (hgw : w.heap.size ≤ g) (hkk : kk = at_ + k) (hq : q = kk / 8) (hr : r = kk % 8) (hy : l'[q]? = some y)
    (h : l'.length = l.length ∧ Crc.Small l' ∧ Crc.le l' = Crc.le l ^^^ 2 ^ at_ * x ∧ x < 2 ^ k ∧ (cnt = 0 ↔ x = 0) ∧ wr.ownsRow w.heap.size 5 1 (.slice (some ⟨g, 0, none⟩) l.length cap) l.length (vals l') ∧ Below w.heap.size w wr) :
    Rel w l at_ g cap (.int .u32 ((M : Int) / 2)) (.int .i64 ((cnt : Int) + 1)) (.int .i64 ((k : Int) + 1)) (wr.setCell ⟨g, q, none⟩ (.int .u8 ((y ^^^ 2 ^ r : Nat) : Int))) := by
  obtain ⟨hlen, hsm, hle, hx, hiff, hown, hbel⟩ := h
  have hpos : 0 < 2 ^ k := Nat.pow_pos (by decide)
  have hr8 : 2 ^ r < 256 := by
    have : 2 ^ r ≤ 2 ^ 7 := Nat.pow_le_pow_right (by decide) (by omega)
    exact Nat.lt_of_le_of_lt this (by decide)
  refine ⟨k + 1, M / 2, cnt + 1, x + 2 ^ k, l'.set q (y ^^^ 2 ^ r), by omega, by omega, by omega, by go_num, by go_num, by go_num, by simpa using hlen, fun z hz => ?_, ?_, ?_, ?_, ?_, hbel.setCell hgw _⟩
  · rcases List.mem_or_eq_of_mem_set hz with hz | rfl
    · exact hsm z hz
    · exact Nat.xor_lt_two_pow (n := 8) (hsm y (List.mem_of_getElem? hy)) hr8
  · rw [Crc.le_set l' _ q y hy, hle, Crc.bit_more hx, Nat.xor_assoc, ← Nat.pow_add]
    have e : 8 * q + r = at_ + k := by omega
    rw [e]
  · rw [Nat.pow_succ]; omega
  · constructor
    · intro h; omega
    · intro h; omega
  · rw [← vals_set]
    exact (hown.stored q _).1

theorem turned_any (w : World) (A : Option Addr) (l : List Nat) (c at_ mask : Nat) (hb : Bytes w w.heap.size A l) (h0 : 0 < l.length) (hl : l.length ≤ 140737488351232) (hat : at_ < 8 * l.length) (hm : mask < 4294967296) :
    Calls Tryd.prog 12 #[.slice A l.length c, .int .i64 (at_ : Int), .int .u32 (mask : Int)] w (TurnedPost w l at_) := by
  obtain ⟨i0, hi0, hz0, hz1, hz2⟩ := info_parts byte_info
  obtain ⟨ad, rfl, hadb, hcells⟩ := hb.2 h0
  have hB := Lib.hid hb
  clear hb
  have HC := Lib.hid hcells
  clear hcells
  go_enter Tryd.func12, Tryd.ntmps12
  go_wp2_with (
    (at_builtin
     refine wpList_append_own _ rfl (.tmp 14) (.tmp 15) 24 rfl w.heap.size 5 i0 (.int .u8 0) 1 1 Tryd.underlying24 hi0 hz0 hz1 hz2 rfl (by decide) (.slice (some ⟨w.heap.size, 0, none⟩) 0 0) 0 [] rfl (World.ownsRow_lit w #[] 0 (Nat.le_refl _) (by simp [maxLen]) rfl) ad l.length c (vals l) rfl (by rw [vals_length, Nat.mul_one]) ?_ (vals_one l) (by simp only [maxLen]; omega) (by omega) (by simp) ?_
     · intro j u hu
       rw [vals_get] at hu
       obtain ⟨x, hx, rfl⟩ := Option.map_eq_some_iff.1 hu
       exact (World.cell?_alloc_lt _ _ _ (by rw [block_add]; exact hadb)).trans (HC.out j x hx)
     intro v1 w1 hown1 hg1 hat1))
  simp only [Nat.zero_add, List.nil_append] at hown1
  obtain ⟨g, cap, rfl, hgw⟩ : ∃ g cap, v1 = .slice (some ⟨g, 0, none⟩) l.length cap ∧ w.heap.size ≤ g := by
    rcases hown1.2 with ⟨_, hz⟩ | ⟨g, cap, _, e, hg, _⟩
    · omega
    · exact ⟨g, cap, e, hg⟩
  have hbel : Below w.heap.size w w1 := (below_new w _).grown hg1 (by simp) (fun k hk => by simp [Value.ownBlock] at hk; omega)
  have HO := Lib.hid hown1
  have HB := Lib.hid hbel
  clear hown1 hg1 hat1 hbel
  go_loopw [2, 9, 10] (fun m n i wr => Rel w l at_ g cap m n i wr) (fun _ _ i _ => 32 - (intOf i).toNat)
  case atStart => exact ⟨0, mask, 0, 0, l, by omega, hm, by omega, rfl, rfl, rfl, rfl, hB.out.1, by simp, by simp, by simp, HO.out, HB.out⟩
  case round =>
    obtain ⟨k, M, cnt, x, l', hk, hM, hcnt, rfl, rfl, rfl, hlen, hsm, hle, hx, hiff, hown, hbel⟩ := hrel
    have HREL := Lib.hid (And.intro hlen (And.intro hsm (And.intro hle (And.intro hx (And.intro hiff (And.intro hown hbel))))))
    clear hlen hsm hle hx hiff hown hbel HO HB
    by_cases hlt : k < 32
    · obtain ⟨kk, hkk⟩ : ∃ kk : Nat, kk = at_ + k := ⟨_, rfl⟩
      have hkI : (at_ : Int) + (k : Int) = (kk : Int) := by omega
      have HK := Lib.hid hkk
      have hkb : kk < 8 * l.length + 32 := by omega
      clear hkk
      by_cases hodd : M % 2 = 1
      · have ht : ((M : Int) % 2 == 1) = true := by rw [beq_iff_eq]; omega
        by_cases hin : kk < 8 * l.length
        · have hltB : decide ((k : Int) < 32) = true := by rw [decide_eq_true_iff]; omega
          have hinB : decide ((kk : Int) < 8 * (l.length : Int)) = true := by rw [decide_eq_true_iff]; omega
          obtain ⟨r, hr⟩ : ∃ r : Nat, r = kk % 8 := ⟨_, rfl⟩
          have hrI : (kk : Int) % 8 = (r : Int) := by omega
          have hr8 : r < 8 := by omega
          have HR := Lib.hid hr
          clear hr
          go_wp2_with fail
          clear ht hkI hltB
          go_loop [12, 13] (fun b j => ∃ i : Nat, i ≤ r ∧ j = .int .i64 (i : Int) ∧ b = .int .u8 ((2 ^ i : Nat) : Int)) (fun _ j => r - (intOf j).toNat)
          case atStart => exact ⟨0, by omega, rfl, rfl⟩
          case round =>
            obtain ⟨i, hi, rfl, rfl⟩ := hrel
            by_cases hir : i < r
            · have hp : 2 ^ i ≤ 64 := by
                have : 2 ^ i ≤ 2 ^ 6 := Nat.pow_le_pow_right (by decide) (by omega)
                simpa using this
              have hs := Lib.hid (show ((2 ^ (i + 1) : Nat) : Int) = ((2 ^ i : Nat) : Int) * 2 by rw [Nat.pow_succ]; omega)
              generalize 2 ^ i = z at *
              go_wp2
              go_round
              case rel => exact ⟨i + 1, by omega, by go_num, by rw [hs.out]⟩
              case measure => simp [intOf]; omega
            · obtain rfl : i = r := by omega
              obtain ⟨q, hq⟩ : ∃ q : Nat, q = kk / 8 := ⟨_, rfl⟩
              have hqI : (kk : Int) / 8 = (q : Int) := by omega
              have hql : q < l.length := by omega
              have HQ := Lib.hid hq
              clear hq
              obtain ⟨y, hy⟩ : ∃ y, l'[q]? = some y := ⟨l'[q]'(by have := HREL.out.1; omega), List.getElem?_eq_getElem _⟩
              have hyb : y < 256 := HREL.out.2.1 y (List.mem_of_getElem? hy)
              have hcell : wr.cell? ⟨g, q, none⟩ = some (.int .u8 (y : Int)) := by
                rw [HREL.out.2.2.2.2.2.1.cellAt q (by omega), vals_get, hy]; rfl
              have hfz : wr.frozen? ⟨g, q, none⟩ = false := HREL.out.2.2.2.2.2.1.frozenAt q
              have hp : 2 ^ i < 256 := by
                have : 2 ^ i ≤ 2 ^ 7 := Nat.pow_le_pow_right (by decide) (by omega)
                exact Nat.lt_of_le_of_lt this (by decide)
              have hxor : bits .xor .u8 (y : Int) ((2 ^ i : Nat) : Int) = ((y ^^^ 2 ^ i : Nat) : Int) := u8_xor_nat y (2 ^ i) hyb hp
              have HT := Lib.hid (rel_turn hlt hM hcnt hgw HK.out HQ.out HR.out hy HREL.out)
              clear hy
              generalize 2 ^ i = z at *
              go_wp2
              go_roundw
              case rel => exact HT.out
              case measure => simp [intOf]; omega
        · have hinB : decide ((kk : Int) < 8 * (l.length : Int)) = false := by rw [decide_eq_false_iff_not]; omega
          have HT := Lib.hid (rel_skip hlt hM hcnt HREL.out)
          go_wp2
          go_roundw
          case rel => exact HT.out
          case measure => simp [intOf]; omega
      · have ht : ((M : Int) % 2 == 1) = false := by rw [beq_eq_false_iff_ne]; omega
        have HT := Lib.hid (rel_skip hlt hM hcnt HREL.out)
        clear hodd
        go_wp2
        go_roundw
        case rel => exact HT.out
        case measure => simp [intOf]; omega
    · obtain rfl : k = 32 := by omega
      go_wp2
      go_ret2
      obtain ⟨hlen, hsm, hle, hx, hiff, hown, hbel⟩ := HREL.out
      refine ⟨g, cap, x, cnt, l', rfl, hlen, ⟨hsm, fun _ => ⟨_, rfl, (hown.lt g rfl).2, fun j y hj => ?_⟩⟩, hle, hx, hiff, hbel⟩
      have e : (⟨g, 0, none⟩ : Addr).add j = ⟨g, j, none⟩ := by
        unfold Addr.add; split
        · rename_i hz; rw [hz]
        · simp
      have hjl : j < l.length := by
        have := (List.getElem?_eq_some_iff.1 hj).1
        omega
      rw [e, hown.cellAt j (by omega), vals_get, hj]; rfl
end Go.Proofs.YtlgfieplapebjaaDoor.Cr
