/- The contract of the document's 'Turned': the bytes that come out are those that went in with the bits of a number below 2^32 turned from a place on, as far as there are bits, and none are counted just where none is turned. Conditions: at least one byte, at most 2^47 - 4091 bytes, the place below the bits' end. -/
import Derived.Test.YtjipeiigcoipjaaDoorRshut
namespace Go.Proofs.YtjipeiigcoipjaaDoor.Se
open Go.ChangeShapes Go.WideShapes Go.ChangeAt Go.RowKit
set_option linter.unusedVariables false

def TurnedPost (w : World) (l : List Nat) (at_ mask : Nat) (e : Ending) (w' : World) : Prop :=
  ∃ (g cap n cnt : Nat), e = .returned (.tuple #[.slice (some ⟨g, 0, none⟩) n cap, .int .i64 (cnt : Int)]) ∧ l.length = n ∧ w'.ownsRow w.heap.size 5 1 (.slice (some ⟨g, 0, none⟩) n cap) n (vals (Crc.spoilt l at_ mask)) ∧
    (cnt = 0 ↔ mask % 2 ^ (8 * l.length - at_) = 0) ∧ Below w.heap.size w w'

/-- what has been turned so far. -/
def Part32 (l : List Nat) (at_ mask k cnt : Nat) (l' : List Nat) : Prop :=
  l'.length = l.length ∧ Crc.Small l' ∧ Crc.le l' = Crc.le l ^^^ 2 ^ at_ * (mask % 2 ^ k % 2 ^ (8 * l.length - at_)) ∧ (cnt = 0 ↔ mask % 2 ^ k % 2 ^ (8 * l.length - at_) = 0)
/-- what holds at each round's head. -/
def Rel (w : World) (l : List Nat) (at_ mask g cap : Nat) (m n i : Value) (wr : World) : Prop :=
  ∃ (k cnt : Nat) (l' : List Nat), k ≤ 32 ∧ cnt ≤ k ∧ i = .int .i64 (k : Int) ∧ m = .int .u32 ((mask / 2 ^ k : Nat) : Int) ∧ n = .int .i64 (cnt : Int) ∧ Part32 l at_ mask k cnt l' ∧
    wr.ownsRow w.heap.size 5 1 (.slice (some ⟨g, 0, none⟩) l.length cap) l.length (vals l') ∧ Below w.heap.size w wr

theorem rel_skip {w wr : World} {l l' : List Nat} {at_ mask g cap k cnt : Nat} (hk : k < 32) (hcnt : cnt ≤ k) (hs : mask / 2 ^ k % 2 = 0 ∨ 8 * l.length - at_ ≤ k)
    (h : Part32 l at_ mask k cnt l' ∧ wr.ownsRow w.heap.size 5 1 (.slice (some ⟨g, 0, none⟩) l.length cap) l.length (vals l') ∧ Below w.heap.size w wr) :
    Rel w l at_ mask g cap (.int .u32 (((mask / 2 ^ k : Nat) : Int) / 2)) (.int .i64 (cnt : Int)) (.int .i64 ((k : Int) + 1)) wr := by
  obtain ⟨⟨hlen, hsm, hle, hiff⟩, hown, hbel⟩ := h
  have e : mask % 2 ^ (k + 1) % 2 ^ (8 * l.length - at_) = mask % 2 ^ k % 2 ^ (8 * l.length - at_) := by
    rcases hs with hs | hs
    · exact Crc.mask_even hs
    · exact Crc.mask_out hs
  refine ⟨k + 1, cnt, l', by omega, by omega, by go_num, ?_, rfl, ⟨hlen, hsm, ?_, ?_⟩, hown, hbel⟩
  · rw [Crc.half_mask]; go_num
  · rw [e]; exact hle
  · rw [e]; exact hiff

theorem rel_turn {w wr : World} {l l' : List Nat} {at_ mask g cap k cnt kk q r y : Nat} (hk : k < 32) (hcnt : cnt ≤ k) (hgw : w.heap.size ≤ g) (hkk : kk = at_ + k) (hin : kk < 8 * l.length) (hodd : mask / 2 ^ k % 2 = 1) (hq : q = kk / 8) (hr : r = kk % 8) (hy : l'[q]? = some y)
    (h : Part32 l at_ mask k cnt l' ∧ wr.ownsRow w.heap.size 5 1 (.slice (some ⟨g, 0, none⟩) l.length cap) l.length (vals l') ∧ Below w.heap.size w wr) :
    Rel w l at_ mask g cap (.int .u32 (((mask / 2 ^ k : Nat) : Int) / 2)) (.int .i64 ((cnt : Int) + 1)) (.int .i64 ((k : Int) + 1)) (wr.setCell ⟨g, q, none⟩ (.int .u8 ((y ^^^ 2 ^ r : Nat) : Int))) := by
  obtain ⟨⟨hlen, hsm, hle, hiff⟩, hown, hbel⟩ := h
  have hpos : 0 < 2 ^ k := Nat.pow_pos (by decide)
  have hr8 : 2 ^ r < 256 := by
    have : 2 ^ r ≤ 2 ^ 7 := Nat.pow_le_pow_right (by decide) (by omega)
    exact Nat.lt_of_le_of_lt this (by decide)
  have e : mask % 2 ^ (k + 1) % 2 ^ (8 * l.length - at_) = mask % 2 ^ k % 2 ^ (8 * l.length - at_) + 2 ^ k := Crc.mask_turn hodd (by omega)
  have hx : mask % 2 ^ k % 2 ^ (8 * l.length - at_) < 2 ^ k := Nat.lt_of_le_of_lt (Nat.mod_le _ _) (Nat.mod_lt _ hpos)
  refine ⟨k + 1, cnt + 1, l'.set q (y ^^^ 2 ^ r), by omega, by omega, by go_num, ?_, by go_num, ⟨by simpa using hlen, fun z hz => ?_, ?_, ?_⟩, ?_, hbel.setCell hgw _⟩
  · rw [Crc.half_mask]; go_num
  · rcases List.mem_or_eq_of_mem_set hz with hz | rfl
    · exact hsm z hz
    · exact Nat.xor_lt_two_pow (n := 8) (hsm y (List.mem_of_getElem? hy)) hr8
  · rw [e, Crc.le_set l' _ q y hy, hle, Crc.bit_more hx, Nat.xor_assoc, ← Nat.pow_add]
    have e2 : 8 * q + r = at_ + k := by omega
    rw [e2]
  · rw [e]
    constructor
    · intro h; omega
    · intro h; omega
  · rw [← vals_set]
    exact (hown.stored q _).1

theorem turned_any (w : World) (A : Option Addr) (l : List Nat) (c at_ mask : Nat) (hb : Bytes w w.heap.size A l) (h0 : 0 < l.length) (hl : l.length ≤ 140737488351237) (hat : at_ < 8 * l.length) (hm : mask < 4294967296) :
    Calls Tryd.prog 15 #[.slice A l.length c, .int .i64 (at_ : Int), .int .u32 (mask : Int)] w (TurnedPost w l at_ mask) := by
  obtain ⟨i0, hi0, hz0, hz1, hz2⟩ := info_parts byte_info
  obtain ⟨ad, rfl, hadb, hcells⟩ := hb.2 h0
  have hB := Lib.hid hb
  clear hb
  have HC := Lib.hid hcells
  clear hcells
  go_enter Tryd.func15, Tryd.ntmps15
  go_wp2_with (
    (at_builtin
     refine wpList_append_own _ rfl (.tmp 14) (.tmp 15) 22 rfl w.heap.size 5 i0 (.int .u8 0) 1 1 Tryd.underlying22 hi0 hz0 hz1 hz2 rfl (by decide) (.slice (some ⟨w.heap.size, 0, none⟩) 0 0) 0 [] rfl (World.ownsRow_lit w #[] 0 (Nat.le_refl _) (by simp [maxLen]) rfl) ad l.length c (vals l) rfl (by rw [vals_length, Nat.mul_one]) ?_ (vals_one l) (by simp only [maxLen]; omega) (by omega) (by simp) ?_
     · intro j u hu
       rw [vals_get] at hu
       obtain ⟨x, hx, rfl⟩ := Option.map_eq_some_iff.1 hu
       exact (World.cell?_alloc_lt _ _ _ (by rw [block_add]; exact hadb)).trans (HC.out j x hx)
     intro v1 w1 hown1 hg1 hat1))
  simp only [Nat.zero_add, List.nil_append] at hown1
  obtain ⟨g, cap, rfl, hgw⟩ : ∃ g cap, v1 = .slice (some ⟨g, 0, none⟩) l.length cap ∧ w.heap.size ≤ g := by
    rcases hown1.2 with ⟨_, hz⟩ | ⟨g, cap, _, e, hg, _⟩
    · omega
    · exact ⟨g, cap, e, hg⟩
  have hbel : Below w.heap.size w w1 := (below_new w _).grown hg1 (by simp) (fun k hk => by simp [Value.ownBlock] at hk; omega)
  have HO := Lib.hid hown1
  have HB := Lib.hid hbel
  clear hown1 hg1 hat1 hbel
  go_loopw [2, 9, 10] (fun m n i wr => Rel w l at_ mask g cap m n i wr) (fun _ _ i _ => 32 - (intOf i).toNat)
  case atStart => exact ⟨0, 0, l, by omega, by omega, rfl, by simp, rfl, ⟨rfl, hB.out.1, by simp [Nat.mod_one], by simp [Nat.mod_one]⟩, HO.out, HB.out⟩
  case round =>
    obtain ⟨k, cnt, l', hk, hcnt, rfl, rfl, rfl, hpart, hown, hbel⟩ := hrel
    have HREL := Lib.hid (And.intro hpart (And.intro hown hbel))
    clear hpart hown hbel HO HB
    have hM : mask / 2 ^ k < 4294967296 := Nat.lt_of_le_of_lt (Nat.div_le_self _ _) hm
    obtain ⟨M, hMe⟩ : ∃ M, mask / 2 ^ k = M := ⟨_, rfl⟩
    have HM := Lib.hid hMe
    rw [hMe] at hM ⊢
    clear hMe
    by_cases hlt : k < 32
    · obtain ⟨kk, hkk⟩ : ∃ kk : Nat, kk = at_ + k := ⟨_, rfl⟩
      have hkI : (at_ : Int) + (k : Int) = (kk : Int) := by omega
      have HK := Lib.hid hkk
      have hkb : kk < 8 * l.length + 32 := by omega
      clear hkk
      by_cases hodd : M % 2 = 1
      · have ht : ((M : Int) % 2 == 1) = true := by rw [beq_iff_eq]; omega
        by_cases hin : kk < 8 * l.length
        · have hltB : decide ((k : Int) < 32) = true := by rw [decide_eq_true_iff]; omega
          have hinB : decide ((kk : Int) < 8 * (l.length : Int)) = true := by rw [decide_eq_true_iff]; omega
          obtain ⟨r, hr⟩ : ∃ r : Nat, r = kk % 8 := ⟨_, rfl⟩
          have hrI : (kk : Int) % 8 = (r : Int) := by omega
          have hr8 : r < 8 := by omega
          have HR := Lib.hid hr
          clear hr
          go_wp2_with fail
          clear ht hkI hltB
          go_loop [12, 13] (fun b j => ∃ i : Nat, i ≤ r ∧ j = .int .i64 (i : Int) ∧ b = .int .u8 ((2 ^ i : Nat) : Int)) (fun _ j => r - (intOf j).toNat)
          case atStart => exact ⟨0, by omega, rfl, rfl⟩
          case round =>
            obtain ⟨i, hi, rfl, rfl⟩ := hrel
            by_cases hir : i < r
            · have hp : 2 ^ i ≤ 64 := by
                have : 2 ^ i ≤ 2 ^ 6 := Nat.pow_le_pow_right (by decide) (by omega)
                simpa using this
              have hs := Lib.hid (show ((2 ^ (i + 1) : Nat) : Int) = ((2 ^ i : Nat) : Int) * 2 by rw [Nat.pow_succ]; omega)
              generalize 2 ^ i = z at *
              go_wp2
              go_round
              case rel => exact ⟨i + 1, by omega, by go_num, by rw [hs.out]⟩
              case measure => simp [intOf]; omega
            · obtain rfl : i = r := by omega
              obtain ⟨q, hq⟩ : ∃ q : Nat, q = kk / 8 := ⟨_, rfl⟩
              have hqI : (kk : Int) / 8 = (q : Int) := by omega
              have hql : q < l.length := by omega
              have HQ := Lib.hid hq
              clear hq
              obtain ⟨y, hy⟩ : ∃ y, l'[q]? = some y := ⟨l'[q]'(by have := HREL.out.1.1; omega), List.getElem?_eq_getElem _⟩
              have hyb : y < 256 := HREL.out.1.2.1 y (List.mem_of_getElem? hy)
              have hcell : wr.cell? ⟨g, q, none⟩ = some (.int .u8 (y : Int)) := by
                rw [HREL.out.2.1.cellAt q (by omega), vals_get, hy]; rfl
              have hfz : wr.frozen? ⟨g, q, none⟩ = false := HREL.out.2.1.frozenAt q
              have hp : 2 ^ i < 256 := by
                have : 2 ^ i ≤ 2 ^ 7 := Nat.pow_le_pow_right (by decide) (by omega)
                exact Nat.lt_of_le_of_lt this (by decide)
              have hxor : bits .xor .u8 (y : Int) ((2 ^ i : Nat) : Int) = ((y ^^^ 2 ^ i : Nat) : Int) := u8_xor_nat y (2 ^ i) hyb hp
              have HT := Lib.hid (rel_turn (mask := mask) hlt hcnt hgw HK.out hin (by rw [HM.out]; exact hodd) HQ.out HR.out hy HREL.out)
              rw [HM.out] at HT
              clear hy
              generalize 2 ^ i = z at *
              go_wp2
              go_roundw
              case rel => exact HT.out
              case measure => simp [intOf]; omega
        · have hinB : decide ((kk : Int) < 8 * (l.length : Int)) = false := by rw [decide_eq_false_iff_not]; omega
          have HT := Lib.hid (rel_skip (mask := mask) hlt hcnt (.inr (by rw [HK.out] at hin; omega)) HREL.out)
          rw [HM.out] at HT
          go_wp2
          go_roundw
          case rel => exact HT.out
          case measure => simp [intOf]; omega
      · have ht : ((M : Int) % 2 == 1) = false := by rw [beq_eq_false_iff_ne]; omega
        have HT := Lib.hid (rel_skip (mask := mask) hlt hcnt (.inl (by rw [HM.out]; omega)) HREL.out)
        rw [HM.out] at HT
        clear hodd
        go_wp2
        go_roundw
        case rel => exact HT.out
        case measure => simp [intOf]; omega
    · obtain rfl : k = 32 := by omega
      go_wp2
      go_ret2
      obtain ⟨⟨hlen, hsm, hle, hiff⟩, hown, hbel⟩ := HREL.out
      rw [Nat.mod_eq_of_lt (by exact hm : mask < 2 ^ 32)] at hle hiff
      rw [Crc.spoilt_of hsm hB.out.1 hlen (Nat.le_of_lt hat) hle] at hown
      exact ⟨g, cap, l.length, cnt, rfl, rfl, hown, hiff, hbel⟩
end Go.Proofs.YtjipeiigcoipjaaDoor.Se
