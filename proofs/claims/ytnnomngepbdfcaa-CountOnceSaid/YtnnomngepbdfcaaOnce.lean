/- The walk of the law CountOnce: no number comes twice, none is left out, and a copy goes its own way. -/
import Derived.Test.YtnnomngepbdfcaaWorks
namespace Go.Proofs.Ytnnomngepbdfcaa.Co
open Go.ChangeShapes Go.WideShapes Go.ChangeAt Go.RowKit
set_option linter.unusedVariables false

theorem grown_ge' {w w1 w2 : World} {g : Nat} (h : Below w.heap.size w w1) (hg : w1.grownBy w2 (some g)) (hge : w.heap.size ≤ g) : Below w.heap.size w w2 :=
  h.grown hg h.size (fun k e => by cases e; exact hge)
/-- what stands at the head of a round: the number i of the round; the counter's last number is the highest that came. -/
def ORel (w : World) (g k len : Nat) (top i : Value) (wr : World) : Prop :=
  ∃ j m : Nat, j ≤ len ∧ i = .int .i64 (j : Int) ∧ top = .int .u64 (m : Int) ∧ m < 281474976710656 ∧ PC wr g m k ∧ Below w.heap.size w wr
theorem ORel.start (w : World) (g k len : Nat) (wr : World) (hp : PC wr g 0 k) (hb : Below w.heap.size w wr) : ORel w g k len (.int .u64 0) (.int .i64 0) wr :=
  ⟨0, 0, Nat.zero_le _, rfl, rfl, by decide, hp, hb⟩
theorem ORel.next {w : World} {g k len j m : Nat} {wr : World} (hj : j < len) (hm : m < 281474976710656) (hp : PC wr g m k) (hb : Below w.heap.size w wr) :
    ORel w g k len (.int .u64 (m : Int)) (.int .i64 ((j : Int) + 1)) wr := ⟨j + 1, m, hj, by rw [Int.natCast_add]; rfl, rfl, hm, hp, hb⟩
set_option maxRecDepth 2000 in
set_option maxHeartbeats 1000000 in
theorem once_walk (w : World) (A : Option Addr) (l : List Nat) (len cap limit : Nat) (hlim : limit < 18446744073709551616) (hlen : l.length = len) (hl : Nums w w.heap.size A l) (hlb : len < 9223372036854775808) :
    Calls Try.prog 4 #[.int .u64 (limit : Int), .slice A len cap] w fun e w' => e = .returned (.bool true) ∧ Below w.heap.size w w' := by
  obtain ⟨k, hk0⟩ : ∃ k, k = capN limit := ⟨_, rfl⟩
  have HK : Hid (k < 281474976710656) := by subst hk0; exact capN_lt limit
  have HC : Hid (capN limit = k) := hk0.symm
  have HL := Lib.hid hlen
  have HA := Lib.hid hl
  clear hk0 hlen hl
  obtain ⟨g, hg⟩ : ∃ g, g = w.heap.size := ⟨_, rfl⟩
  go_enter Try.func4, Try.ntmps4
  go_wp2_with fail
  refine (new_any w limit hlim).mono ?_
  rintro e w1 ⟨rfl, hw1⟩
  rw [HC.out] at hw1
  rw [← hg]
  have HG : Hid (w.heap.size ≤ g) := Nat.le_of_eq hg.symm
  have HS : Hid (ORel w g k len (.int .u64 0) (.int .i64 0) w1) := by subst hw1; subst hg; exact ORel.start w _ k len _ (PC.new w k) (below_new w _)
  clear hw1 hg
  go_wp2_with fail
  go_loopw [6, 7] (fun top i wr => ORel w g k len top i wr) (fun _ i _ => len - (intOf i).toNat)
  case atStart => exact HS.out
  case round =>
    clear HS
    obtain ⟨j, m, hj, rfl, rfl, hm, hp, hb⟩ := hrel
    have HM0 := Lib.hid hm
    have HP0 := Lib.hid hp
    have HB0 := Lib.hid hb
    clear hm hp hb
    by_cases hlt : j < len
    · have HJ := Lib.hid hlt
      obtain ⟨ad, x, rfl, hx, hxb, _, _⟩ := HA.out.at_ (k := j) (by rw [HL.out]; exact hlt)
      have HX := Lib.hid hx
      clear hx
      go_wp2_with fail
      refine (copy_any wr g m k HP0.out).mono ?_
      rintro e w1 ⟨rfl, hd1, hb1⟩
      obtain ⟨d, hd⟩ : ∃ d, d = wr.heap.size := ⟨_, rfl⟩
      have HD : Hid (w.heap.size ≤ d ∧ g ≠ d) := by
        subst hd
        exact ⟨HB0.out.size, Nat.ne_of_lt (At.lt HP0.out)⟩
      have HP1 := Lib.hid (At.up HP0.out hb1)
      have HB1 := Lib.hid (HB0.out.trans (hb1.mono HB0.out.size))
      rw [← hd] at hd1
      rw [← hd]
      have HD1 := Lib.hid hd1
      clear hd1 hb1 HP0 HB0 hd
      by_cases hlt2 : m < k
      · obtain ⟨m', hm'⟩ : ∃ m', m' = m + 1 := ⟨_, rfl⟩
        have HM : Hid (m' < 281474976710656) := by have h1 := HK.out; subst hm'; exact Nat.lt_of_le_of_lt hlt2 h1
        have HLT := Lib.hid hlt2
        have hN1 : ∀ v : World, PC v g m k → Calls Try.prog 10 #[.pointer (some ⟨g, 0, none⟩)] v (CPost v g (.tuple #[.int .u64 (m' : Int), .int .i64 0]) m' k) := fun v hv => by subst hm'; exact next_some v g m k hv HLT.out HK.out
        have hN2 : ∀ v : World, PC v d m k → Calls Try.prog 10 #[.pointer (some ⟨d, 0, none⟩)] v (CPost v d (.tuple #[.int .u64 (m' : Int), .int .i64 0]) m' k) := fun v hv => by subst hm'; exact next_some v d m k hv HLT.out HK.out
        have HN1 := Lib.hid hN1
        have HN2 := Lib.hid hN2
        have hI : (m : Int) + 1 = (m' : Int) := by rw [hm']; rfl
        have hd1 : decide ((m : Int) < (m' : Int)) = true := decide_eq_true (by omega)
        have hm64 : m' < 18446744073709551616 := Nat.lt_trans HM.out (by decide)
        clear hN1 hN2 hm' hlt2
        go_wp2_with fail
        refine (HN1.out w1 HP1.out).mono ?_
        rintro e w2 ⟨rfl, hp2, hg2⟩
        have HP2 := Lib.hid hp2
        have HD2 := Lib.hid (At.kept HD1.out hg2 (by intro e; exact HD.out.2 (Option.some.inj e).symm))
        have HB2 := Lib.hid (grown_ge' HB1.out hg2 HG.out)
        clear hp2 hg2 HP1 HD1 HB1
        go_wp2_with fail
        refine (HN2.out w2 HD2.out).mono ?_
        rintro e w3 ⟨rfl, hd3, hg3⟩
        have HD3 := Lib.hid hd3
        have HP3 := Lib.hid (At.kept HP2.out hg3 (by intro e; exact HD.out.2 (Option.some.inj e)))
        have HB3 := Lib.hid (grown_ge' HB2.out hg3 HD.out.1)
        clear hd3 hg3 HP2 HD2 HB2
        have HA3 := Lib.hid (HA.out.below HB3.out)
        have cx : w3.cell? (ad.add j) = some (.int .u64 (x : Int)) := HA3.out.cell HX.out
        go_wp2_with fail
        refine (raise_any w3 d m' k x HD3.out hxb).mono ?_
        rintro e w4 ⟨rfl, _, hg4⟩
        have HP4 := Lib.hid (At.kept HP3.out hg4 (by intro e; exact HD.out.2 (Option.some.inj e)))
        have HB4 := Lib.hid (grown_ge' HB3.out hg4 HD.out.1)
        have HA4 := Lib.hid (HA.out.below HB4.out)
        have cx : w4.cell? (ad.add j) = some (.int .u64 (x : Int)) := HA4.out.cell HX.out
        clear hg4 HD3 HP3 HB3 HA3
        by_cases hodd : x % 2 = 1
        · have hI2 : (x : Int) % 2 = 1 := by omega
          clear hodd
          go_wp2_with fail
          refine (raise_any w4 g m' k x HP4.out hxb).mono ?_
          obtain ⟨m2, hm2⟩ : ∃ m2, m2 = riseM m' x := ⟨_, rfl⟩
          have HM2 : Hid (m2 < 281474976710656) := by subst hm2; exact riseM_lt HM.out
          obtain ⟨c, hc⟩ : ∃ c, c = capN x := ⟨_, rfl⟩
          have hmin2 : (if (281474976710655 : Int) < (x : Int) then (281474976710655 : Int) else (x : Int)) = (c : Int) := by
            rw [hc]
            unfold capN
            split <;> split <;> omega
          rw [← hm2]
          rintro e w5 ⟨rfl, hp5, hg5⟩
          have HP5 := Lib.hid hp5
          have HB5 := Lib.hid (grown_ge' HB4.out hg5 HG.out)
          have HA5 := Lib.hid (HA.out.below HB5.out)
          have cx5 : w5.cell? (ad.add j) = some (.int .u64 (x : Int)) := HA5.out.cell HX.out
          have hm3 : m2 = if m' < c then c else m' := by rw [hm2, hc]; rfl
          clear hp5 hg5 hm2 hc cx HP4 HB4 HA4
          by_cases hmc : m' < c
          · rw [if_pos hmc] at hm3
            rw [← hm3] at hmc hmin2
            clear hm3
            go_wp2_with fail
            refine (now_any w5 g m2 k HP5.out).mono ?_
            rintro e w' ⟨rfl, rfl⟩
            have HN : Hid (ORel w g k len (.int .u64 (m2 : Int)) (.int .i64 ((j : Int) + 1)) w5) := ORel.next HJ.out HM2.out HP5.out HB5.out
            go_wp2
            go_roundw
            case rel => exact HN.out
            case measure => simp [intOf]; omega
          · rw [if_neg hmc] at hm3
            rw [hm3] at HP5
            clear hm3
            go_wp2_with fail
            refine (now_any w5 g m' k HP5.out).mono ?_
            rintro e w' ⟨rfl, rfl⟩
            have HN : Hid (ORel w g k len (.int .u64 (m' : Int)) (.int .i64 ((j : Int) + 1)) w5) := ORel.next HJ.out HM.out HP5.out HB5.out
            go_wp2
            go_roundw
            case rel => exact HN.out
            case measure => simp [intOf]; omega
        · have hI2 : (x : Int) % 2 = 0 := by omega
          clear hodd
          go_wp2_with fail
          refine (now_any w4 g m' k HP4.out).mono ?_
          rintro e w' ⟨rfl, rfl⟩
          have HN : Hid (ORel w g k len (.int .u64 (m' : Int)) (.int .i64 ((j : Int) + 1)) w4) := ORel.next HJ.out HM.out HP4.out HB4.out
          go_wp2
          go_roundw
          case rel => exact HN.out
          case measure => simp [intOf]; omega
      · have hmin : (if (281474976710655 : Int) < (limit : Int) then (281474976710655 : Int) else (limit : Int)) = (k : Int) := by
          have h1 := HC.out
          rw [← h1]
          unfold capN
          split <;> split <;> omega
        have hd1 : decide ((m : Int) < (k : Int)) = false := decide_eq_false (by omega)
        have HLT := Lib.hid hlt2
        clear hlt2
        go_wp2_with fail
        refine (next_none w1 g m k HP1.out HLT.out HM0.out HK.out).mono ?_
        rintro e w2 ⟨rfl, hp2, hg2⟩
        have HP2 := Lib.hid hp2
        have HD2 := Lib.hid (At.kept HD1.out hg2 (by intro e; exact HD.out.2 (Option.some.inj e).symm))
        have HB2 := Lib.hid (grown_ge' HB1.out hg2 HG.out)
        clear hp2 hg2 HP1 HD1 HB1
        go_wp2_with fail
        refine (next_none w2 d m k HD2.out HLT.out HM0.out HK.out).mono ?_
        rintro e w3 ⟨rfl, hd3, hg3⟩
        have HD3 := Lib.hid hd3
        have HP3 := Lib.hid (At.kept HP2.out hg3 (by intro e; exact HD.out.2 (Option.some.inj e)))
        have HB3 := Lib.hid (grown_ge' HB2.out hg3 HD.out.1)
        clear hd3 hg3 HP2 HD2 HB2
        have HA3 := Lib.hid (HA.out.below HB3.out)
        have cx : w3.cell? (ad.add j) = some (.int .u64 (x : Int)) := HA3.out.cell HX.out
        go_wp2_with fail
        refine (raise_any w3 d m k x HD3.out hxb).mono ?_
        rintro e w4 ⟨rfl, _, hg4⟩
        have HP4 := Lib.hid (At.kept HP3.out hg4 (by intro e; exact HD.out.2 (Option.some.inj e)))
        have HB4 := Lib.hid (grown_ge' HB3.out hg4 HD.out.1)
        have HA4 := Lib.hid (HA.out.below HB4.out)
        have cx : w4.cell? (ad.add j) = some (.int .u64 (x : Int)) := HA4.out.cell HX.out
        clear hg4 HD3 HP3 HB3 HA3
        by_cases hodd : x % 2 = 1
        · have hI2 : (x : Int) % 2 = 1 := by omega
          clear hodd
          go_wp2_with fail
          refine (raise_any w4 g m k x HP4.out hxb).mono ?_
          obtain ⟨m2, hm2⟩ : ∃ m2, m2 = riseM m x := ⟨_, rfl⟩
          have HM2 : Hid (m2 < 281474976710656) := by subst hm2; exact riseM_lt HM0.out
          obtain ⟨c, hc⟩ : ∃ c, c = capN x := ⟨_, rfl⟩
          have hmin2 : (if (281474976710655 : Int) < (x : Int) then (281474976710655 : Int) else (x : Int)) = (c : Int) := by
            rw [hc]
            unfold capN
            split <;> split <;> omega
          rw [← hm2]
          rintro e w5 ⟨rfl, hp5, hg5⟩
          have HP5 := Lib.hid hp5
          have HB5 := Lib.hid (grown_ge' HB4.out hg5 HG.out)
          have HA5 := Lib.hid (HA.out.below HB5.out)
          have cx5 : w5.cell? (ad.add j) = some (.int .u64 (x : Int)) := HA5.out.cell HX.out
          have hm3 : m2 = if m < c then c else m := by rw [hm2, hc]; rfl
          clear hp5 hg5 hm2 hc cx HP4 HB4 HA4
          by_cases hmc : m < c
          · rw [if_pos hmc] at hm3
            rw [← hm3] at hmc hmin2
            clear hm3
            go_wp2_with fail
            refine (now_any w5 g m2 k HP5.out).mono ?_
            rintro e w' ⟨rfl, rfl⟩
            have HN : Hid (ORel w g k len (.int .u64 (m2 : Int)) (.int .i64 ((j : Int) + 1)) w5) := ORel.next HJ.out HM2.out HP5.out HB5.out
            go_wp2
            go_roundw
            case rel => exact HN.out
            case measure => simp [intOf]; omega
          · rw [if_neg hmc] at hm3
            rw [hm3] at HP5
            clear hm3
            go_wp2_with fail
            refine (now_any w5 g m k HP5.out).mono ?_
            rintro e w' ⟨rfl, rfl⟩
            have HN : Hid (ORel w g k len (.int .u64 (m : Int)) (.int .i64 ((j : Int) + 1)) w5) := ORel.next HJ.out HM0.out HP5.out HB5.out
            go_wp2
            go_roundw
            case rel => exact HN.out
            case measure => simp [intOf]; omega
        · have hI2 : (x : Int) % 2 = 0 := by omega
          clear hodd
          go_wp2_with fail
          refine (now_any w4 g m k HP4.out).mono ?_
          rintro e w' ⟨rfl, rfl⟩
          have HN : Hid (ORel w g k len (.int .u64 (m : Int)) (.int .i64 ((j : Int) + 1)) w4) := ORel.next HJ.out HM0.out HP4.out HB4.out
          go_wp2
          go_roundw
          case rel => exact HN.out
          case measure => simp [intOf]; omega
    · obtain rfl : j = len := by omega
      go_wp2_with fail
      refine (works_any _).mono ?_
      rintro e w5 ⟨rfl, hb5⟩
      have HB5 := Lib.hid (HB0.out.trans (hb5.mono HB0.out.size))
      clear hb5
      go_wp2
      go_ret
      exact ⟨rfl, HB5.out⟩
end Go.Proofs.Ytnnomngepbdfcaa.Co
