/- The walk of the law CountPlays: whatever the counter is asked, the program's counter and the document's say the same. -/
import Derived.Test.YtnnomngepbdfcaaWorks
import Derived.Test.YtnnomngepbdfcaaRef
import Derived.StillTailTactics
import Derived.Shelf.SlSortCmp.QuietGrown
namespace Go.Proofs.Ytnnomngepbdfcaa.Co
open Go.ChangeShapes Go.WideShapes Go.ChangeAt Go.RowKit Go.Sort
set_option linter.unusedVariables false

theorem below_grow (w : World) (n : Nat) (os : Array Obj) : Below w.heap.size w (grow (w.drewN n) os) := by
  refine ⟨rfl, rfl, rfl, ?_, ?_⟩
  · show w.heap.size ≤ (w.heap ++ os).size
    simp
  · intro i hi
    show (w.heap ++ os)[i]? = _
    rw [Array.getElem?_append_left hi]
theorem PC.grow {w : World} {g m k : Nat} (h : PC w g m k) (n : Nat) (os : Array Obj) : PC (grow (w.drewN n) os) g m k := At.up h (below_grow w n os)
theorem At.grow {w : World} {g : Nat} {t : TypeId} {cs : Array Value} (h : At w g t cs) (n : Nat) (os : Array Obj) : At (grow (w.drewN n) os) g t cs := At.up h (below_grow w n os)
theorem now_grown (w : World) (g m k : Nat) (h : PC w g m k) (n : Nat) (os : Array Obj) :
    Calls Try.prog 12 #[.pointer (some ⟨g, 0, none⟩)] (Sort.grow (w.drewN n) os) fun e w'' => e = .returned (.int .u64 (m : Int)) ∧ ∃ p : GrownBy, w'' = Sort.grow (w.drewN p.n) p.os :=
  (now_any _ g m k (h.grow n os)).mono fun _ _ q => ⟨q.1, ⟨n, os⟩, q.2.symm⟩
theorem left_grown (w : World) (g m k : Nat) (h : PC w g m k) (hm : m < 281474976710656) (hk : k < 281474976710656) (n : Nat) (os : Array Obj) :
    Calls Try.prog 13 #[.pointer (some ⟨g, 0, none⟩)] (Sort.grow (w.drewN n) os) fun e w'' => e = .returned (.int .u64 ((leftM m k : Nat) : Int)) ∧ ∃ p : GrownBy, w'' = Sort.grow (w.drewN p.n) p.os := by
  refine (left_any _ g m k (h.grow n os) hm hk).mono ?_
  rintro e w' ⟨rfl, d, rfl⟩
  exact ⟨rfl, ⟨n + d, os⟩, by show _ = Sort.grow (w.drewN (n + d)) os; rw [← World.drewN_drewN]; rfl⟩
theorem rleft_exact (w : World) (m k : Nat) (hm : m < 281474976710656) (hk : k < 281474976710656) :
    Calls Try.prog 14 #[rc m k] w fun e w' => e = .returned (.int .u64 ((leftM m k : Nat) : Int)) ∧ w.alloc (.cells #[.int .u64 (k : Int), .int .u64 (m : Int)] 27) = w' := by
  unfold rc
  by_cases h2 : k ≤ m
  · have e0 : leftM m k = 0 := by unfold leftM; omega
    rw [e0]
    go_enter Try.func14, Try.ntmps14
    go_wp2
    go_ret
    exact ⟨rfl, rfl⟩
  · have e0 : ((leftM m k : Nat) : Int) = (k : Int) - (m : Int) := by unfold leftM; omega
    rw [e0]
    clear e0
    go_enter Try.func14, Try.ntmps14
    go_wp2
    go_ret
    exact ⟨rfl, rfl⟩
theorem rleft_grown (w : World) (m k : Nat) (hm : m < 281474976710656) (hk : k < 281474976710656) (n : Nat) (os : Array Obj) :
    Calls Try.prog 14 #[.agg #[.int .u64 (k : Int), .int .u64 (m : Int)]] (Sort.grow (w.drewN n) os) fun e w'' => e = .returned (.int .u64 ((leftM m k : Nat) : Int)) ∧ ∃ p : GrownBy, w'' = Sort.grow (w.drewN p.n) p.os := by
  refine (rleft_exact _ m k hm hk).mono ?_
  rintro e w' ⟨rfl, rfl⟩
  exact ⟨rfl, ⟨n, os ++ #[_]⟩, by rw [alloc_eq_grow, grow_grow]⟩
/-- what stands at the head of a round: the number i of the round, the same last number on both sides. -/
def PRel (w : World) (g h k len : Nat) (i : Value) (wr : World) : Prop :=
  ∃ j m : Nat, j ≤ len ∧ i = .int .i64 (j : Int) ∧ m < 281474976710656 ∧ PC wr g m k ∧ At wr h 27 #[.int .u64 (k : Int), .int .u64 (m : Int)] ∧ Below w.heap.size w wr
theorem PRel.start (w : World) (g h k len : Nat) (wr : World) (hp : PC wr g 0 k) (hr : At wr h 27 #[.int .u64 (k : Int), .int .u64 0]) (hb : Below w.heap.size w wr) : PRel w g h k len (.int .i64 0) wr :=
  ⟨0, 0, Nat.zero_le _, rfl, by decide, hp, hr, hb⟩
theorem PRel.next {w : World} {g h k len j m : Nat} {wr : World} (hj : j < len) (hm : m < 281474976710656) (hp : PC wr g m k) (hr : At wr h 27 #[.int .u64 (k : Int), .int .u64 (m : Int)]) (hb : Below w.heap.size w wr) :
    PRel w g h k len (.int .i64 ((j : Int) + 1)) wr := ⟨j + 1, m, hj, by rw [Int.natCast_add]; rfl, hm, hp, hr, hb⟩
theorem grown_ge {w w1 w2 : World} {g : Nat} (h : Below w.heap.size w w1) (hg : w1.grownBy w2 (some g)) (hge : w.heap.size ≤ g) : Below w.heap.size w w2 :=
  h.grown hg h.size (fun k e => by cases e; exact hge)
theorem below_sets {w w1 : World} {h : Nat} (hb : Below w.heap.size w w1) (hge : w.heap.size ≤ h) (a b : Value) :
    Below w.heap.size w ((w1.setCell ⟨h, 0, none⟩ a).setCell ⟨h, 1, none⟩ b) :=
  grown_ge (grown_ge hb (turn_set w1 h 0 a) hge) (turn_set _ h 1 b) hge
set_option maxHeartbeats 1000000 in
theorem plays_walk (w : World) (A : Option Addr) (l : List Nat) (len cap limit : Nat) (hlim : limit < 18446744073709551616) (hlen : l.length = len) (hl : Nums w w.heap.size A l) (hlb : len < 9223372036854775808) :
    Calls Try.prog 3 #[.int .u64 (limit : Int), .slice A len cap] w fun e w' => e = .returned (.bool true) ∧ Below w.heap.size w w' := by
  obtain ⟨k, hk0⟩ : ∃ k, k = capN limit := ⟨_, rfl⟩
  have HK : Hid (k < 281474976710656) := by subst hk0; exact capN_lt limit
  have HC : Hid (capN limit = k) := hk0.symm
  have HL := Lib.hid hlen
  have HA := Lib.hid hl
  clear hk0 hlen hl
  go_enter Try.func3, Try.ntmps3
  go_wp2_with fail
  refine (new_any w limit hlim).mono ?_
  rintro e w1 ⟨rfl, hw1⟩
  rw [HC.out] at hw1
  have HP1 : Hid (PC w1 w.heap.size 0 k) := by subst hw1; exact PC.new w k
  have HB1 : Hid (Below w.heap.size w w1) := by subst hw1; exact below_new w _
  clear hw1
  go_wp2_with fail
  refine (rnew_any w1 limit hlim).mono ?_
  rw [HC.out]
  rintro e w2 ⟨rfl, hb2⟩
  have HP2 := Lib.hid (At.up HP1.out hb2)
  have HB2 := Lib.hid (HB1.out.trans (hb2.mono HB1.out.size))
  clear hb2 HP1 HB1
  unfold rc
  obtain ⟨h, hh⟩ : ∃ h, h = w2.heap.size := ⟨_, rfl⟩
  obtain ⟨g, hg⟩ : ∃ g, g = w.heap.size := ⟨_, rfl⟩
  have HG : Hid (w.heap.size ≤ g) := Nat.le_of_eq hg.symm
  have HH : Hid (w.heap.size ≤ h ∧ g ≠ h) := by
    subst hh; subst hg
    exact ⟨HB2.out.size, Nat.ne_of_lt (At.lt HP2.out)⟩
  have HS : Hid (PRel w g h k len (.int .i64 0) (w2.alloc (.cells #[.int .u64 (k : Int), .int .u64 0] 27))) := by
    subst hh; subst hg
    exact PRel.start w _ _ k len _ (At.up HP2.out (below_new w2 _)) (At.new _ _ _) (HB2.out.alloc HB2.out.size _)
  rw [← hg]
  clear HP2 HB2 hg
  go_wp2_with fail
  rw [← hh]
  clear hh
  go_loopw [7] (fun i wr => PRel w g h k len i wr) (fun i _ => len - (intOf i).toNat)
  case atStart => exact HS.out
  case round =>
    clear HS
    obtain ⟨j, m, hj, rfl, hm, hp, hr, hb⟩ := hrel
    have HM0 := Lib.hid hm
    have HP0 := Lib.hid hp
    have HR0 := Lib.hid hr
    have HB0 := Lib.hid hb
    clear hm hp hr hb
    by_cases hlt : j < len
    · have HJ := Lib.hid hlt
      obtain ⟨ad, x, rfl, hx, hxb, _, _⟩ := HA.out.at_ (k := j) (by rw [HL.out]; exact hlt)
      have HX := Lib.hid hx
      have HA0 := Lib.hid (HA.out.below HB0.out)
      have cx : wr.cell? (ad.add j) = some (.int .u64 (x : Int)) := HA0.out.cell hx
      clear hx
      by_cases h0 : 0 < x
      · go_wp2_with fail
        refine (raise_any wr g m k x HP0.out hxb).mono ?_
        rintro e w3 ⟨rfl, hp3, hg3⟩
        obtain ⟨m', hm'⟩ : ∃ m', m' = riseM m x := ⟨_, rfl⟩
        have HM : Hid (m' < 281474976710656) := by subst hm'; exact riseM_lt HM0.out
        have HE : Hid (riseM m x = m') := hm'.symm
        rw [← hm'] at hp3
        have HP3 := Lib.hid hp3
        have HR3 := Lib.hid (At.kept HR0.out hg3 (by intro e; exact HH.out.2 (Option.some.inj e).symm))
        have HB3 := Lib.hid (grown_ge HB0.out hg3 HG.out)
        have HA3 := Lib.hid (HA.out.below HB3.out)
        have cx3 : w3.cell? (ad.add j) = some (.int .u64 (x : Int)) := HA3.out.cell HX.out
        have b0 := At.cell HR3.out 0
        have b1 := At.cell HR3.out 1
        have f0 := At.frozen HR3.out 0
        have f1 := At.frozen HR3.out 1
        simp at b0 b1
        clear hp3 hg3 hm' cx HP0 HR0 HB0 HA0
        go_wp2_with fail
        go_still_tail 5, (by kernel_rfl)
        change wpList _ _ _ _ _ w3.drew
        have HP3' : Hid (PC w3.drew g m' k) := HP3.out
        have HR3' : Hid (At w3.drew h 27 #[.int .u64 (k : Int), .int .u64 (m : Int)]) := HR3.out
        have HB3' : Hid (Below w.heap.size w w3.drew) := HB3.out.drew
        clear cx3 f0 f1 b0 b1 HP3 HR3 HB3 HA3
        generalize w3.drew = w4 at *
        go_wp2_with fail
        refine (rraise_any w4 m k x HM0.out hxb).mono ?_
        rw [HE.out]
        rintro e w5 ⟨rfl, hb5⟩
        unfold rc
        have HP5 := Lib.hid (At.up HP3'.out hb5)
        have HR5 := Lib.hid (At.up HR3'.out hb5)
        have HB5 := Lib.hid (HB3'.out.trans (hb5.mono HB3'.out.size))
        have f0 := At.frozen HR5.out 0
        have f1 := At.frozen HR5.out 1
        have b0 := At.cell HR5.out 0
        have b1 := At.cell HR5.out 1
        simp at b0 b1
        clear hb5 HP3' HR3' HB3'
        go_wp2_with fail
        obtain ⟨V, hV⟩ : ∃ V, V = (w5.setCell ⟨h, 0, none⟩ (.int .u64 (k : Int))).setCell ⟨h, 1, none⟩ (.int .u64 (m' : Int)) := ⟨_, rfl⟩
        rw [← hV]
        have HP : Hid (PC V g m' k) := by subst hV; exact At.other (At.other HP5.out h 0 _ HH.out.2) h 1 _ HH.out.2
        have HR : Hid (At V h 27 #[.int .u64 (k : Int), .int .u64 (m' : Int)]) := by subst hV; exact At.set (At.set HR5.out 0 _) 1 _
        have HB : Hid (Below w.heap.size w V) := by subst hV; exact below_sets HB5.out HH.out.1 _ _
        clear hV f0 f1 b0 b1 HP5 HR5 HB5
        have d0 : ∀ n os, (Sort.grow (V.drewN n) os).cell? ⟨h, 0, none⟩ = some (.int .u64 (k : Int)) := fun n os => by rw [At.cell (HR.out.grow n os) 0]; rfl
        have d1 : ∀ n os, (Sort.grow (V.drewN n) os).cell? ⟨h, 1, none⟩ = some (.int .u64 (m' : Int)) := fun n os => by rw [At.cell (HR.out.grow n os) 1]; rfl
        go_wp2_with fail
        have hmx : Try.prog.follows .mixedOrders = true := by kernel_rfl
        go_quiet_grown (first
          | (go_at_call 12; exact now_grown V g m' k HP.out _ _)
          | (go_at_call 13; exact left_grown V g m' k HP.out HM.out HK.out _ _)
          | (go_at_call 14; exact rleft_grown V m' k HM.out HK.out _ _))
        have HN : Hid (PRel w g h k len (.int .i64 ((j : Int) + 1)) (Sort.grow (V.drewN nq) osq)) := PRel.next HJ.out HM.out (HP.out.grow nq osq) (HR.out.grow nq osq) (HB.out.trans ((below_grow V nq osq).mono HB.out.size))
        clear d0 d1 HP HR HB hmx
        go_wp2
        go_roundw
        case rel => exact HN.out
        case measure => simp [intOf]; omega
      · obtain rfl : x = 0 := by omega
        clear h0
        go_wp2_with fail
        refine (next_any wr g m k HP0.out HM0.out HK.out).mono ?_
        rintro e w3 ⟨rfl, hp3, hg3⟩
        have HP3 := Lib.hid hp3
        have HR3 := Lib.hid (At.kept HR0.out hg3 (by intro e; exact HH.out.2 (Option.some.inj e).symm))
        have HB3 := Lib.hid (grown_ge HB0.out hg3 HG.out)
        have b0 := At.cell HR3.out 0
        have b1 := At.cell HR3.out 1
        simp at b0 b1
        clear hp3 hg3 cx HP0 HR0 HB0 HA0
        go_wp2_with fail
        refine (rnext_any w3 m k HM0.out HK.out).mono ?_
        rintro e w4 ⟨rfl, hb4⟩
        obtain ⟨m', hm'⟩ : ∃ m', m' = nextM m k := ⟨_, rfl⟩
        have HM : Hid (m' < 281474976710656) := by subst hm'; exact nextM_lt HM0.out HK.out
        rw [← hm']
        obtain ⟨nn, hnn⟩ : ∃ nn, nn = nextN m k := ⟨_, rfl⟩
        obtain ⟨ee, hee⟩ : ∃ ee, ee = nextE m k := ⟨_, rfl⟩
        rw [← hnn, ← hee]
        unfold rc
        have HP5 : Hid (PC (w4.alloc (.cells #[.int .u64 (k : Int), .int .u64 (m' : Int)] 27)) g m' k) := by subst hm'; exact At.up (At.up HP3.out hb4) (below_new w4 _)
        have HR5 : Hid (At (w4.alloc (.cells #[.int .u64 (k : Int), .int .u64 (m' : Int)] 27)) h 27 #[.int .u64 (k : Int), .int .u64 (m : Int)]) := At.up (At.up HR3.out hb4) (below_new w4 _)
        have HB5 : Hid (Below w.heap.size w (w4.alloc (.cells #[.int .u64 (k : Int), .int .u64 (m' : Int)] 27))) := (HB3.out.trans (hb4.mono HB3.out.size)).alloc (HB3.out.trans (hb4.mono HB3.out.size)).size _
        have f0 := At.frozen HR5.out 0
        have f1 := At.frozen HR5.out 1
        simp only [At.cell HR3.out] at b0 b1
        have b0 := At.cell HR5.out 0
        have b1 := At.cell HR5.out 1
        simp only [List.getElem?_toArray, List.getElem?_cons_zero, List.getElem?_cons_succ] at b0 b1
        clear hb4 hm' hnn hee HP3 HR3 HB3
        go_wp2_with fail
        obtain ⟨V, hV⟩ : ∃ V, V = ((w4.alloc (.cells #[.int .u64 (k : Int), .int .u64 (m' : Int)] 27)).setCell ⟨h, 0, none⟩ (.int .u64 (k : Int))).setCell ⟨h, 1, none⟩ (.int .u64 (m' : Int)) := ⟨_, rfl⟩
        rw [← hV]
        have HP : Hid (PC V g m' k) := by subst hV; exact At.other (At.other HP5.out h 0 _ HH.out.2) h 1 _ HH.out.2
        have HR : Hid (At V h 27 #[.int .u64 (k : Int), .int .u64 (m' : Int)]) := by subst hV; exact At.set (At.set HR5.out 0 _) 1 _
        have HB : Hid (Below w.heap.size w V) := by subst hV; exact below_sets HB5.out HH.out.1 _ _
        clear hV f0 f1 b0 b1 HP5 HR5 HB5
        have d0 : ∀ n os, (Sort.grow (V.drewN n) os).cell? ⟨h, 0, none⟩ = some (.int .u64 (k : Int)) := fun n os => by rw [At.cell (HR.out.grow n os) 0]; rfl
        have d1 : ∀ n os, (Sort.grow (V.drewN n) os).cell? ⟨h, 1, none⟩ = some (.int .u64 (m' : Int)) := fun n os => by rw [At.cell (HR.out.grow n os) 1]; rfl
        go_wp2_with fail
        have hmx : Try.prog.follows .mixedOrders = true := by kernel_rfl
        go_quiet_grown (first
          | (go_at_call 12; exact now_grown V g m' k HP.out _ _)
          | (go_at_call 13; exact left_grown V g m' k HP.out HM.out HK.out _ _)
          | (go_at_call 14; exact rleft_grown V m' k HM.out HK.out _ _))
        have HN : Hid (PRel w g h k len (.int .i64 ((j : Int) + 1)) (Sort.grow (V.drewN nq) osq)) := PRel.next HJ.out HM.out (HP.out.grow nq osq) (HR.out.grow nq osq) (HB.out.trans ((below_grow V nq osq).mono HB.out.size))
        clear d0 d1 HP HR HB hmx
        go_wp2
        go_roundw
        case rel => exact HN.out
        case measure => simp [intOf]; omega
    · obtain rfl : j = len := by omega
      have b1 : wr.cell? ⟨h, 1, none⟩ = some (.int .u64 (m : Int)) := At.cell HR0.out 1
      go_wp2_with fail
      go_region_with (first
        | (go_at_call 12; refine (now_any _ g m k HP0.out.drew).mono ?_; rintro e w' ⟨rfl, rfl⟩)
        | (go_at_call 15; refine (works_any _).mono ?_; rintro e w5 ⟨rfl, hb5⟩; have HB5 := Lib.hid (HB0.out.drew.trans (hb5.mono HB0.out.size)); clear hb5))
      all_goals
        go_wp2
        go_ret
        exact ⟨rfl, HB5.out⟩
end Go.Proofs.Ytnnomngepbdfcaa.Co
