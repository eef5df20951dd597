/- The contract of the document's Spoil: the bytes that came in with some bits turned, and how many were; nothing that was there has changed. Condition: at most 2^47 - 4091 bytes. -/
import Derived.Test.YtjipeiigcoipjaaDoorSpoil
namespace Go.Proofs.YtjipeiigcoipjaaDoor.Se
open Go.ChangeShapes Go.WideShapes Go.ChangeAt Go.RowKit
set_option linter.unusedVariables false

def SpoilPost (w : World) (l : List Nat) (n : Nat) (at_ : Int) (mask : Nat) (e : Ending) (w' : World) : Prop :=
  ∃ (A : Option Addr) (c cnt : Nat), e = .returned (.tuple #[.slice A n c, .int .i64 (cnt : Int)]) ∧ (Crc.spoilt l (place at_ n) mask).length = n ∧ Bytes w' w'.heap.size A (Crc.spoilt l (place at_ n) mask) ∧
    (cnt = 0 ↔ mask % 2 ^ (8 * n - place at_ n) = 0) ∧ Below w.heap.size w w'
theorem turned_at (w : World) (A : Option Addr) (l : List Nat) (n c at_ mask : Nat) (hn : l.length = n) (hb : Bytes w w.heap.size A l) (h0 : 0 < n) (hl : n ≤ 140737488351237) (hat : at_ < 8 * n) (hm : mask < 4294967296) :
    Calls Tryd.prog 15 #[.slice A n c, .int .i64 (at_ : Int), .int .u32 (mask : Int)] w (TurnedPost w l at_ mask) := by
  subst hn
  exact turned_any w A l c at_ mask hb h0 hl hat hm

theorem rspoil_any (w : World) (A : Option Addr) (l : List Nat) (n c mask : Nat) (at_ : Int) (hn : l.length = n) (hb : Bytes w w.heap.size A l) (hl : n ≤ 140737488351237) (hm : mask < 4294967296) (a0 : -9223372036854775808 ≤ at_) (a1 : at_ ≤ 9223372036854775807) :
    Calls Tryd.prog 7 #[.slice A n c, .int .i64 at_, .int .u32 (mask : Int)] w (SpoilPost w l n at_ mask) := by
  have HB := Lib.hid hb
  have HN := Lib.hid hn
  clear hb hn
  by_cases h0 : n = 0
  · have hnil : Hid (l = []) := List.eq_nil_of_length_eq_zero (HN.out.trans h0)
    subst h0
    go_enter Tryd.func7, Tryd.ntmps7
    go_wp2
    go_ret2
    refine ⟨none, 0, 0, rfl, ?_, ?_, by simp [Nat.mod_one], Below.refl _ _⟩
    · rw [Crc.spoilt_length, HN.out]
    · rw [hnil.out]; exact Bytes.none_ _ _ _
  · obtain ⟨p, hp⟩ : ∃ p, place at_ n = p := ⟨_, rfl⟩
    have hpl : p < 8 * n := by rw [← hp]; exact place_lt at_ (by omega)
    have hpI := place_int at_ (show 0 < n by omega)
    rw [hp] at hpI
    have HP := Lib.hid hp
    clear hp
    have hN : ((8 * n : Nat) : Int) = 8 * (n : Int) := by omega
    rw [hN] at hpI
    obtain ⟨hc, hlo, hhi⟩ := rem_cases at_ (8 * (n : Int)) (by omega)
    have hz : (8 * (n : Int) == 0) = false := by rw [beq_eq_false_iff_ne]; omega
    generalize hr : at_.tmod (8 * (n : Int)) = r at *
    have hq : (r + 8 * (n : Int)).tmod (8 * (n : Int)) = (p : Int) := by
      rw [Int.tmod_eq_emod_of_nonneg (by omega), hpI]
      rcases hc with ⟨h1, h2⟩ | ⟨h1, h2⟩
      · rw [Int.add_emod_right, h2]; exact Int.emod_eq_of_lt h1 hhi
      · rw [h2]; exact Int.emod_eq_of_lt (by omega) (by omega)
    clear hc hpI hN
    go_enter Tryd.func7, Tryd.ntmps7
    go_wp2_with fail
    refine (turned_at w A l n c p mask HN.out HB.out (by omega) hl hpl hm).mono ?_
    rintro e w1 ⟨g, cap, n1, cnt, rfl, hn1, hown, hiff, hbel⟩
    obtain rfl : n = n1 := HN.out.symm.trans hn1
    have HR : Hid (SpoilPost w l n at_ mask (.returned (.tuple #[.slice (some ⟨g, 0, none⟩) n cap, .int .i64 (cnt : Int)])) w1) := by
      refine ⟨some ⟨g, 0, none⟩, cap, cnt, rfl, ?_, ?_, ?_, hbel⟩
      · rw [Crc.spoilt_length, HN.out]
      · rw [HP.out]; exact bytes_own hown (Crc.spoilt_small _ _ _)
      · rw [HP.out, ← HN.out]; exact hiff
    clear hn1 hown hiff hbel
    go_wp2
    go_ret2
    exact HR.out
end Go.Proofs.YtjipeiigcoipjaaDoor.Se
