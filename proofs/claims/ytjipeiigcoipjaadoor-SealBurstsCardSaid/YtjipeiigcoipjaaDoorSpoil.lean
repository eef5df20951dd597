/- The contracts of seal's firstBit and Spoil, and of the document's Spoil: a new list of the bytes that came in with some bits turned; nothing that was there has changed. Condition: at most 2^47 - 4091 bytes. -/
import Derived.Test.YtjipeiigcoipjaaDoorTurned
namespace Go.Proofs.YtjipeiigcoipjaaDoor.Se
open Go.ChangeShapes Go.WideShapes Go.ChangeAt Go.RowKit
set_option linter.unusedVariables false

/-- the place of the first bit. -/
def place (at_ : Int) (n : Nat) : Nat := (at_ % ((8 * n : Nat) : Int)).toNat
theorem place_int (at_ : Int) {n : Nat} (h : 0 < n) : ((place at_ n : Nat) : Int) = at_ % ((8 * n : Nat) : Int) := by
  unfold place
  exact Int.toNat_of_nonneg (Int.emod_nonneg _ (by omega))
theorem place_lt (at_ : Int) {n : Nat} (h : 0 < n) : place at_ n < 8 * n := by
  have h1 := place_int at_ h
  have h2 := Int.emod_lt_of_pos at_ (show (0 : Int) < ((8 * n : Nat) : Int) by omega)
  omega
theorem rem_cases (a N : Int) (h : 0 < N) : (0 ≤ a.tmod N ∧ a % N = a.tmod N ∨ a.tmod N < 0 ∧ a % N = a.tmod N + N) ∧ - N < a.tmod N ∧ a.tmod N < N := by
  have h1 := Int.emod_nonneg a (show N ≠ 0 by omega)
  have h2 := Int.emod_lt_of_pos a h
  rw [Int.tmod_eq_emod]
  split
  · refine ⟨.inl ⟨by omega, by omega⟩, by omega, by omega⟩
  · rename_i hc
    have hne : a % N ≠ 0 := fun e => hc (.inr (Int.dvd_of_emod_eq_zero e))
    refine ⟨.inr ⟨by omega, by omega⟩, by omega, by omega⟩

theorem first_any (w : World) (at_ : Int) (n : Nat) (h0 : 0 < n) (hn : n ≤ 140737488351237) (a0 : -9223372036854775808 ≤ at_) (a1 : at_ ≤ 9223372036854775807) :
    Calls Tryd.prog 20 #[.int .i64 at_, .int .i64 (n : Int)] w fun e w' => e = .returned (.int .u64 ((place at_ n : Nat) : Int)) ∧ w = w' := by
  have hp := place_int at_ h0
  have hlt := place_lt at_ h0
  have hN : ((8 * n : Nat) : Int) = (n : Int) * 8 := by omega
  rw [hN] at hp
  obtain ⟨hc, hlo, hhi⟩ := rem_cases at_ ((n : Int) * 8) (by omega)
  have hz : ((n : Int) * 8 == 0) = false := by rw [beq_eq_false_iff_ne]; omega
  generalize hr : at_.tmod ((n : Int) * 8) = r at *
  generalize place at_ n = p at *
  go_enter Tryd.func20, Tryd.ntmps20
  go_wp2
  all_goals
    go_ret
    exact ⟨ret_int (by omega), rfl⟩

theorem and7 (p : Nat) (hp : p < 18446744073709551616) : bits .and .u64 (p : Int) 7 = ((p % 8 : Nat) : Int) := by
  rw [show (7 : Int) = ((7 : Nat) : Int) from rfl, u64_and_nat p 7 hp (by decide)]
  have h : p &&& 7 = p % 8 := Nat.and_two_pow_sub_one_eq_mod p 3
  rw [h]

theorem clone_spoilt {w : World} {e : Ending} {w' : World} {l : List Nat} {p mask : Nat} (h : ClonePost w l e w') (hz : l = []) : ClonePost w (Crc.spoilt l p mask) e w' := by
  subst hz
  exact h

theorem wrap_mask {mask r : Nat} (hm : mask < 4294967296) (hr : r < 8) : IntKind.u64.wrap ((mask : Int) * 2 ^ r) = ((mask * 2 ^ r : Nat) : Int) ∧ mask * 2 ^ r < 18446744073709551616 := by
  have h1 : 2 ^ r ≤ 2 ^ 7 := Nat.pow_le_pow_right (by decide) (by omega)
  have h2 : mask * 2 ^ r ≤ 4294967295 * 2 ^ 7 := Nat.mul_le_mul (by omega) h1
  have h3 : (4294967295 * 2 ^ 7 : Nat) = 549755813760 := by decide
  have e : (mask : Int) * 2 ^ r = ((mask * 2 ^ r : Nat) : Int) := by simp
  refine ⟨?_, by omega⟩
  rw [e, IntKind.wrap_u64]
  omega

/-- what holds at each round's head: so many bytes of the moved mask have been turned in. -/
def SpRel (w : World) (l : List Nat) (T q g n cap : Nat) (v i : Value) (wr : World) : Prop :=
  ∃ (k : Nat) (m : List Nat), q + k ≤ n ∧ i = .int .i64 (k : Int) ∧ v = .int .u64 ((T / 2 ^ (8 * k) : Nat) : Int) ∧ m.length = n ∧ Crc.Small m ∧ Crc.le m = Crc.le l ^^^ 2 ^ (8 * q) * (T % 2 ^ (8 * k)) ∧
    wr.ownsRow w.heap.size 5 1 (.slice (some ⟨g, 0, none⟩) n cap) n (vals m) ∧ Below w.heap.size w wr
theorem sp_step {w wr : World} {l m : List Nat} {T q g n cap k y : Nat} (hk : q + k < n) (hgw : w.heap.size ≤ g) (hy : m[q + k]? = some y)
    (h : m.length = n ∧ Crc.Small m ∧ Crc.le m = Crc.le l ^^^ 2 ^ (8 * q) * (T % 2 ^ (8 * k)) ∧ wr.ownsRow w.heap.size 5 1 (.slice (some ⟨g, 0, none⟩) n cap) n (vals m) ∧ Below w.heap.size w wr) :
    SpRel w l T q g n cap (.int .u64 (((T / 2 ^ (8 * k) : Nat) : Int) / 256)) (.int .i64 ((k : Int) + 1)) (wr.setCell ⟨g, q + k, none⟩ (.int .u8 ((y ^^^ T / 2 ^ (8 * k) % 256 : Nat) : Int))) := by
  obtain ⟨hlen, hsm, hle, hown, hbel⟩ := h
  have hb : T / 2 ^ (8 * k) % 256 < 256 := Nat.mod_lt _ (by decide)
  refine ⟨k + 1, m.set (q + k) (y ^^^ T / 2 ^ (8 * k) % 256), by omega, by go_num, ?_, by simpa using hlen, fun z hz => ?_, ?_, ?_, hbel.setCell hgw _⟩
  · rw [Crc.next_byte]; go_num
  · rcases List.mem_or_eq_of_mem_set hz with hz | rfl
    · exact hsm z hz
    · exact Nat.xor_lt_two_pow (n := 8) (hsm y (List.mem_of_getElem? hy)) hb
  · rw [Crc.le_set m _ (q + k) y hy, hle, Crc.byte_more, Nat.xor_assoc]
  · rw [← vals_set]
    exact (hown.stored (q + k) _).1
theorem own_clone {w w' : World} {g cap n : Nat} {m : List Nat} (ho : w'.ownsRow w.heap.size 5 1 (.slice (some ⟨g, 0, none⟩) n cap) n (vals m)) (hm : m.length = n) (hs : Crc.Small m) (hb : Below w.heap.size w w') : ClonePost w m (.returned (.slice (some ⟨g, 0, none⟩) n cap)) w' := by
  refine ⟨_, n, cap, rfl, hm, bytes_own ho hs, ?_, ?_, fun h => (by cases h), hb, ho⟩
  · rcases ho.2 with ⟨h, _⟩ | ⟨_, _, _, h, _, _, h1, _⟩
    · cases h
    · cases h; exact h1
  · rcases ho.2 with ⟨h, _⟩ | ⟨_, _, _, h, _, _, _, h1, _⟩
    · cases h
    · cases h; exact h1

set_option maxHeartbeats 1000000 in
theorem pspoil_any (w : World) (A : Option Addr) (l : List Nat) (n c mask : Nat) (at_ : Int) (hn : l.length = n) (hA : A = none → n = 0 ∧ c = 0) (hb : Bytes w w.heap.size A l) (hl : n ≤ 140737488351237) (hm : mask < 4294967296) (a0 : -9223372036854775808 ≤ at_) (a1 : at_ ≤ 9223372036854775807) :
    Calls Tryd.prog 11 #[.slice A n c, .int .i64 at_, .int .u32 (mask : Int)] w (ClonePost w (Crc.spoilt l (place at_ n) mask)) := by
  have HB := Lib.hid hb
  have HN := Lib.hid hn
  have HA := Lib.hid hA
  have hs := Lib.hid hb.1
  clear hb hn hA
  by_cases h0 : n = 0
  · have HA0 : Hid (A = none → (0 : Nat) = 0 ∧ c = 0) := fun e => ⟨rfl, (HA.out e).2⟩
    subst h0
    go_enter Tryd.func11, Tryd.ntmps11
    go_wp2_with fail
    refine (clone_any w A l 0 c HN.out (fun e => ⟨rfl, (HA0.out e).2⟩) HB.out (by omega)).mono ?_
    intro e w1 h1
    have h2 := clone_spoilt (p := place at_ 0) (mask := mask) h1 (List.eq_nil_of_length_eq_zero HN.out)
    obtain ⟨A1, n1, c1, rfl, hr⟩ := h2
    have hn1 : n1 = 0 := by rw [← hr.1, Crc.spoilt_length, HN.out]
    subst hn1
    have HR := Lib.hid hr
    clear h1 hr
    go_wp2
    go_ret
    exact ⟨A1, 0, c1, rfl, HR.out⟩
  · have hz : ((n : Int) == 0) = false := by rw [beq_eq_false_iff_ne]; omega
    obtain ⟨p, hp⟩ : ∃ p, place at_ n = p := ⟨_, rfl⟩
    have hpl : p < 8 * n := by rw [← hp]; exact place_lt at_ (by omega)
    have HP := Lib.hid hp
    rw [hp]
    clear hp
    go_enter Tryd.func11, Tryd.ntmps11
    go_wp2_with fail
    refine (clone_any w A l n c HN.out HA.out HB.out (by omega)).mono ?_
    rintro e w1 ⟨A1, n1, cap, rfl, hn1, hb1, hnc, hcm, hA1, hbel, hown⟩
    obtain rfl : n = n1 := HN.out.symm.trans hn1
    obtain ⟨g, cap', e1, hgw⟩ := own_shape (w := w) hown (.inl (by omega))
    obtain ⟨rfl, rfl⟩ : A1 = some ⟨g, 0, none⟩ ∧ cap = cap' := by simp at e1; exact e1
    have HO := Lib.hid hown
    have HW := Lib.hid hbel
    clear hb1 hn1 hown hbel hA1 e1
    go_wp2_with fail
    refine (first_any w1 at_ n (by omega) hl a0 a1).mono ?_
    rintro e w' ⟨rfl, rfl⟩
    rw [HP.out]
    obtain ⟨q, hq⟩ : ∃ q, p / 8 = q := ⟨_, rfl⟩
    have hqI : (p : Int) / 8 = (q : Int) := by omega
    have hqn : q < n := by omega
    have hqc : ¬ cap = q := by omega
    have h7 := and7 p (by omega)
    obtain ⟨r, hr⟩ : ∃ r, p % 8 = r := ⟨_, rfl⟩
    have hr8 : r < 8 := by omega
    rw [hr] at h7
    go_wp2_with fail
    have ⟨hwr, hT64⟩ := wrap_mask hm hr8
    rw [hwr]
    obtain ⟨T, hT⟩ : ∃ T, mask * 2 ^ r = T := ⟨_, rfl⟩
    have HT : Hid (mask * 2 ^ (p % 8) = T) := by show _ = _; rw [hr]; exact hT
    have HQ := Lib.hid hq
    rw [hT] at hT64 ⊢
    have HR : Hid (SpRel w l T q g n cap (.int .u64 (T : Int)) (.int .i64 0) w1) := ⟨0, l, by omega, rfl, by simp, HN.out, hs.out, by simp [Nat.mod_one], HO.out, HW.out⟩
    clear hwr hT hr h7 hqI hq HO HW
    go_loopw [10, 11] (fun v i wr => SpRel w l T q g n cap v i wr) (fun _ i _ => n - (intOf i).toNat)
    case atStart => exact HR.out
    case round =>
      clear HR
      obtain ⟨k, m, hk, rfl, rfl, hlen, hsm, hle, hown, hbel⟩ := hrel
      have HREL := Lib.hid (And.intro hlen (And.intro hsm (And.intro hle (And.intro hown hbel))))
      clear hlen hsm hle hown hbel
      have hv : T / 2 ^ (8 * k) < 18446744073709551616 := Nat.lt_of_le_of_lt (Nat.div_le_self _ _) hT64
      obtain ⟨v, hve⟩ : ∃ v, T / 2 ^ (8 * k) = v := ⟨_, rfl⟩
      have HV := Lib.hid hve
      rw [hve] at hv ⊢
      clear hve
      by_cases hv0 : v = 0
      · have hb0 : ((v : Int) != 0) = false := by rw [bne_eq_false_iff_eq]; omega
        go_wp2
        go_ret
        obtain ⟨hlen, hsm, hle, hown, hbel⟩ := HREL.out
        have e : m = Crc.spoilt l p mask := Crc.spoilt_left (k := k) hsm hs.out (hlen.trans HN.out.symm) (by rw [HQ.out, HT.out]; exact hle) (by rw [HT.out, HV.out]; exact hv0)
        rw [← e]
        exact own_clone hown hlen hsm hbel
      · have hb0 : ((v : Int) != 0) = true := by rw [bne_iff_ne]; omega
        by_cases hlt : q + k < n
        · have hd : decide ((k : Int) < (((n - q : Nat)) : Int)) = true := decide_eq_true (by omega)
          obtain ⟨y, hy⟩ : ∃ y, m[q + k]? = some y := ⟨m[q + k]'(by have := HREL.out.1; omega), List.getElem?_eq_getElem _⟩
          have hyb : y < 256 := HREL.out.2.1 y (List.mem_of_getElem? hy)
          have hcell : wr.cell? ⟨g, q + k, none⟩ = some (.int .u8 (y : Int)) := by
            rw [HREL.out.2.2.2.1.cellAt (q + k) (by omega), vals_get, hy]; rfl
          have hfz : wr.frozen? ⟨g, q + k, none⟩ = false := HREL.out.2.2.2.1.frozenAt (q + k)
          have hxor : bits .xor .u8 (y : Int) ((v : Int) % 256) = ((y ^^^ v % 256 : Nat) : Int) := by
            rw [show (v : Int) % 256 = ((v % 256 : Nat) : Int) by omega]
            exact u8_xor_nat y (v % 256) hyb (Nat.mod_lt _ (by decide))
          have hST := Lib.hid (sp_step (l := l) (T := T) hlt hgw hy HREL.out)
          rw [HV.out] at hST
          clear hy
          go_wp2
          go_roundw
          case rel => exact hST.out
          case measure => simp [intOf]; omega
        · have hd : decide ((k : Int) < (((n - q : Nat)) : Int)) = false := decide_eq_false (by omega)
          have hkn : q + k = n := by omega
          go_wp2
          go_ret
          obtain ⟨hlen, hsm, hle, hown, hbel⟩ := HREL.out
          have e : m = Crc.spoilt l p mask := Crc.spoilt_end (k := k) hsm hs.out (hlen.trans HN.out.symm) (by rw [HQ.out, HT.out]; exact hle) (by rw [HQ.out, HN.out]; exact hkn)
          rw [← e]
          exact own_clone hown hlen hsm hbel
end Go.Proofs.YtjipeiigcoipjaaDoor.Se
