/- The walk of the law PackReads: it returns true, for every list of bytes and every list of calls; nothing that was there has changed. -/
import Derived.Test.YtpleafcjacbkkaaWorks
import Derived.Test.YtpleafcjacbkkaaNew
import Derived.Test.YtpleafcjacbkkaaRtext
import Derived.Deep.RegionHeld3
namespace Go.Proofs.Ytpleafcjacbkkaa.Nu
open Go.ChangeShapes Go.WideShapes Go.ChangeAt Go.RowKit
set_option linter.unusedVariables false

/-- calls of a reader as they came in: a kind and a number each. -/
def Acts (w : World) (B : Nat) (A : Option Addr) (l : List (Nat × Int)) : Prop :=
  (∀ x ∈ l, x.1 < 256 ∧ -9223372036854775808 ≤ x.2 ∧ x.2 ≤ 9223372036854775807) ∧
  (0 < l.length → ∃ ad : Addr, A = some ad ∧ ad.block < B ∧ ∀ (j k : Nat) (m : Int), l[j]? = some (k, m) → w.cell? (ad.add (j * 2)) = some (.int .u8 (k : Int)) ∧ w.cell? (ad.add (j * 2 + 1)) = some (.int .i64 m))
theorem Acts.below {w w' : World} {B : Nat} {A : Option Addr} {l : List (Nat × Int)} (h : Acts w B A l) (hb : Below B w w') : Acts w' B A l :=
  ⟨h.1, fun hl => by
    obtain ⟨ad, e, hB, hc⟩ := h.2 hl
    exact ⟨ad, e, hB, fun j k m hx => ⟨(hb.cell (by rw [block_add]; exact hB)).trans (hc j k m hx).1, (hb.cell (by rw [block_add]; exact hB)).trans (hc j k m hx).2⟩⟩⟩

theorem add_next (ad : Addr) (m : Nat) : (⟨(ad.add m).block, (ad.add m).off + 1, none⟩ : Addr) = ad.add (m + 1) := by
  rw [add_lit, block_add]
  unfold Addr.add
  split
  · rename_i h; rw [h]
  · rfl
theorem Acts.at_ {w : World} {B : Nat} {A : Option Addr} {l : List (Nat × Int)} (h : Acts w B A l) {k : Nat} (hk : k < l.length) :
    ∃ (ad : Addr) (kd : Nat) (mo : Int), A = some ad ∧ kd < 256 ∧ -9223372036854775808 ≤ mo ∧ mo ≤ 9223372036854775807 ∧ w.cell? (ad.add (k * 2)) = some (.int .u8 (kd : Int)) ∧ w.cell? ⟨(ad.add (k * 2)).block, (ad.add (k * 2)).off + 1, none⟩ = some (.int .i64 mo) := by
  obtain ⟨ad, e, hB, hc⟩ := h.2 (by omega)
  obtain ⟨a1, a2, a3⟩ := h.1 _ (List.getElem_mem hk)
  obtain ⟨c1, c2⟩ := hc k l[k].1 l[k].2 (List.getElem?_eq_getElem hk)
  exact ⟨ad, _, _, e, a1, a2, a3, c1, by rw [add_next]; exact c2⟩
theorem RR.new {w w1 : World} {A : Option Addr} {n c : Nat} {b : List Nat} (hb : Bytes w w.heap.size A b) (hn : b.length = n) (hnc : n ≤ c) (hc : c ≤ 9223372036854775807) (hA : A = none → n = 0 ∧ c = 0) (h1 : Below w.heap.size w w1) :
    RR (w1.alloc (.cells #[.slice A n c, .int .i64 0, .int .i64 0] 27)) w1.heap.size w.heap.size A n c b b 0 :=
  ⟨0, At.new _ _ _, hb.below (h1.alloc h1.size _), hn, by omega, hnc, fun h => (hA h).2, Nat.zero_le _, fun _ => rfl, fun h => absurd rfl h⟩
/-- the two readers, side by side. -/
def Both (w : World) (g h : Nat) (A : Option Addr) (n c : Nat) (b l : List Nat) (e : Nat) (W : World) : Prop := PR W g g l e ∧ RR W h w.heap.size A n c b l e ∧ Below w.heap.size w W
theorem both_alloc {w W : World} {g h n c e : Nat} {A : Option Addr} {b l : List Nat} (k : Both w g h A n c b l e W) (o : Obj) : Both w g h A n c b l e (W.alloc o) := by
  obtain ⟨k1, k2, k3⟩ := k
  exact ⟨k1.kept (World.grownBy_alloc W o none) (Nat.le_of_lt k1.lt) (by simp) (fun j hj => (by cases hj)), k2.kept (World.grownBy_alloc W o none) k3.size (by simp) (fun j hj => (by cases hj)), k3.alloc k3.size o⟩
theorem both_drew {w W : World} {g h n c e : Nat} {A : Option Addr} {b l : List Nat} (k : Both w g h A n c b l e W) (m : Nat) : Both w g h A n c b l e (W.drewN m) := by
  obtain ⟨k1, k2, k3⟩ := k
  exact ⟨k1.drewN m, k2.drewN m, k3.trans (below_drewN _ _ _)⟩
theorem both_step {w W W1 : World} {g h n c e : Nat} {A : Option Addr} {b l : List Nat} (k : Both w g h A n c b l e W) (hgw : w.heap.size ≤ g) (hgh : g < h) (hg1 : W.grownBy W1 (some g)) : RR W1 h w.heap.size A n c b l e ∧ Below w.heap.size w W1 := by
  obtain ⟨k1, k2, k3⟩ := k
  exact ⟨k2.kept hg1 k3.size (by simp; omega) (fun j hj => (by cases hj; exact hgw)), k3.grown hg1 k3.size (fun j hj => (by cases hj; exact hgw))⟩
theorem both_end {w W1 W2 : World} {g h n c e' : Nat} {A : Option Addr} {b l' : List Nat} (hp : PR W1 g g l' e') (hb : Below w.heap.size w W1) (hgw : w.heap.size ≤ g) (hgh : g < h) (hr : RR W2 h w.heap.size A n c b l' e') (hg2 : W1.grownBy W2 (some h)) : Both w g h A n c b l' e' W2 :=
  ⟨hp.kept hg2 (Nat.le_of_lt hp.lt) (by simp; omega) (fun j hj => (by cases hj; omega)), hr, hb.grown hg2 hb.size (fun j hj => (by cases hj; omega))⟩
theorem quiet_same {f : FuncId} {args : Array Value} {w : World} {n : Nat} {v : Value} (h : Calls Try.prog f args (w.drewN n) fun e w' => e = .returned v ∧ w.drewN n = w') : Calls Try.prog f args (w.drewN n) fun e w'' => e = .returned v ∧ ∃ m, w'' = w.drewN m :=
  h.mono fun _ _ ⟨he, hm⟩ => ⟨he, n, hm.symm⟩
theorem both_drew1 {w W : World} {g h n c e : Nat} {A : Option Addr} {b l : List Nat} (k : Both w g h A n c b l e W) : Both w g h A n c b l e W.drew := both_drew k 1
theorem wrap_nat (mo : Int) : ((IntKind.u64.wrap mo).toNat : Int) = IntKind.u64.wrap mo := by rw [IntKind.wrap_u64]; omega
/-- between the two calls. -/
def Mid (w : World) (g h : Nat) (A : Option Addr) (n c : Nat) (b l l' : List Nat) (e e' : Nat) (q : Nat) (mo : Int) (v : Value) (r : Ending) (w2 : World) : Prop :=
  r = .returned v ∧ PR w2 g g l' e' ∧ RR w2 h w.heap.size A n c b l e ∧ Below w.heap.size w w2 ∧ w2.cell? ⟨q, 1, none⟩ = some (.int .i64 mo) ∧ q < w2.heap.size
theorem upto_mid {w W : World} {g h n c e q : Nat} {A : Option Addr} {b l : List Nat} {mo : Int} (k : Both w g h A n c b l e W) (hgw : w.heap.size ≤ g) (hgh : g < h) (hq : W.cell? ⟨q, 1, none⟩ = some (.int .i64 mo)) (hqs : q < W.heap.size) (hqg : h < q) :
    Calls Try.prog 9 #[.pointer (some ⟨g, 0, none⟩), .int .u64 (IntKind.u64.wrap mo)] W.drew (Mid w g h A n c b l (uptoL (IntKind.u64.wrap mo).toNat l) e (uptoE (IntKind.u64.wrap mo).toNat l e) q mo (.int .u64 ((uptoV (IntKind.u64.wrap mo).toNat l : Nat) : Int))) := by
  have hc := upto_any W.drew g g l e (IntKind.u64.wrap mo).toNat (both_drew1 k).1 (Nat.le_refl _)
  rw [wrap_nat] at hc
  refine hc.mono ?_
  rintro r w2 ⟨rfl, hp2, hg2⟩
  obtain ⟨hr2, hb2⟩ := both_step (both_drew1 k) hgw hgh hg2
  exact ⟨rfl, hp2, hr2, hb2, (hg2.cell_far ⟨q, 1, none⟩ hqs (by simp; omega)).trans hq, Nat.lt_of_lt_of_le hqs hg2.size⟩
theorem rupto_mid {w w2 : World} {h n c e q : Nat} {A : Option Addr} {b l : List Nat} {mo : Int} (k : RR w2 h w.heap.size A n c b l e) (hwh : w.heap.size ≤ h) (hq : w2.cell? ⟨q, 1, none⟩ = some (.int .i64 mo)) (hqs : q < w2.heap.size) (hqg : h < q) :
    Calls Try.prog 10 #[.pointer (some ⟨h, 0, none⟩), .int .u64 (IntKind.u64.wrap mo)] w2 fun r w3 => RPost w2 h w.heap.size A n c b (.int .u64 ((uptoV (IntKind.u64.wrap mo).toNat l : Nat) : Int)) (uptoL (IntKind.u64.wrap mo).toNat l) (uptoE (IntKind.u64.wrap mo).toNat l e) r w3 ∧ w3.cell? ⟨q, 1, none⟩ = some (.int .i64 mo) := by
  have hc := rupto_any w2 h w.heap.size A n c b l e (IntKind.u64.wrap mo).toNat k hwh
  rw [wrap_nat] at hc
  refine hc.mono ?_
  rintro r w3 ⟨rfl, hr3, hg3⟩
  exact ⟨⟨rfl, hr3, hg3⟩, (hg3.cell_far ⟨q, 1, none⟩ hqs (by simp; omega)).trans hq⟩
theorem text_mid {w W : World} {g h n c e q : Nat} {A : Option Addr} {b l : List Nat} {mo : Int} (k : Both w g h A n c b l e W) (hgw : w.heap.size ≤ g) (hgh : g < h) (hq : W.cell? ⟨q, 1, none⟩ = some (.int .i64 mo)) (hqs : q < W.heap.size) (hqg : h < q) (m0 : -9223372036854775808 ≤ mo) (m1 : mo ≤ 9223372036854775807) :
    Calls Try.prog 15 #[.pointer (some ⟨g, 0, none⟩), .int .i64 mo] W.drew (Mid w g h A n c b l (textL mo l) e (textE mo l e) q mo (.string (str (textV mo l)))) := by
  refine (text_any W.drew g g l e mo (both_drew1 k).1 (Nat.le_refl _) m0 m1).mono ?_
  rintro r w2 ⟨rfl, hp2, hg2⟩
  obtain ⟨hr2, hb2⟩ := both_step (both_drew1 k) hgw hgh hg2
  exact ⟨rfl, hp2, hr2, hb2, (hg2.cell_far ⟨q, 1, none⟩ hqs (by simp; omega)).trans hq, Nat.lt_of_lt_of_le hqs hg2.size⟩
theorem rtext_mid {w w2 : World} {h n c e q : Nat} {A : Option Addr} {b l : List Nat} {mo : Int} (k : RR w2 h w.heap.size A n c b l e) (hwh : w.heap.size ≤ h) (hc : c ≤ 9223372036854775807) (hq : w2.cell? ⟨q, 1, none⟩ = some (.int .i64 mo)) (hqs : q < w2.heap.size) (hqg : h < q) (m0 : -9223372036854775808 ≤ mo) (m1 : mo ≤ 9223372036854775807) :
    Calls Try.prog 16 #[.pointer (some ⟨h, 0, none⟩), .int .i64 mo] w2 fun r w3 => RPost w2 h w.heap.size A n c b (.string (str (textV mo l))) (textL mo l) (textE mo l e) r w3 ∧ w3.cell? ⟨q, 1, none⟩ = some (.int .i64 mo) := by
  refine (rtext_any w2 h w.heap.size A n c b l e mo k hwh hc m0 m1).mono ?_
  rintro r w3 ⟨rfl, hr3, hg3⟩
  exact ⟨⟨rfl, hr3, hg3⟩, (hg3.cell_far ⟨q, 1, none⟩ hqs (by simp; omega)).trans hq⟩
/-- what holds at each round's head. -/
def ReadsRel (w : World) (g h : Nat) (A : Option Addr) (n c : Nat) (b : List Nat) (len : Nat) (i : Value) (wr : World) : Prop :=
  ∃ (k : Nat) (l : List Nat) (e : Nat), k ≤ len ∧ i = .int .i64 (k : Int) ∧ Both w g h A n c b l e wr

set_option maxRecDepth 100000 in
set_option maxHeartbeats 4000000 in
theorem reads_walk (w : World) (A A2 : Option Addr) (b : List Nat) (l2 : List (Nat × Int)) (n c len cap : Nat) (hn : b.length = n) (hA : A = none → n = 0 ∧ c = 0) (hb : Bytes w w.heap.size A b) (hn47 : n ≤ 140737488351232) (hnc : n ≤ c) (hc : c ≤ 9223372036854775807)
    (hl : l2.length = len) (ha : Acts w w.heap.size A2 l2) (hlm : len ≤ 9223372036854775807) :
    Calls Try.prog 3 #[.slice A n c, .slice A2 len cap] w fun r w' => r = .returned (.bool true) ∧ Below w.heap.size w w' := by
  have HN := Lib.hid hn
  have HA := Lib.hid hA
  have HB := Lib.hid hb
  have HL := Lib.hid hl
  have HAC := Lib.hid ha
  clear hn hA hb hl ha
  go_enter Try.func3, Try.ntmps3
  go_wp2_with fail
  refine (new_any w A b n c HN.out HA.out HB.out (by omega)).mono ?_
  rintro r w1 ⟨g, rfl, hgw, hp1, hb1⟩
  have HP1 := Lib.hid hp1
  have HB1 := Lib.hid hb1
  clear hp1 hb1
  have HS : Hid (ReadsRel w g w1.heap.size A n c b len (.int .i64 0) (w1.alloc (.cells #[.slice A n c, .int .i64 0, .int .i64 0] 27))) :=
    ⟨0, b, 0, Nat.zero_le _, rfl, HP1.out.kept (World.grownBy_alloc w1 _ none) (Nat.le_of_lt HP1.out.lt) (by simp) (fun k h => (by cases h)), RR.new HB.out HN.out hnc hc HA.out HB1.out, HB1.out.alloc HB1.out.size _⟩
  have hgh : g < w1.heap.size := HP1.out.lt
  go_wp2_with fail
  generalize w1.heap.size = h at *
  go_loopw [7] (fun i wr => ReadsRel w g h A n c b len i wr) (fun i _ => len - (intOf i).toNat)
  case atStart => exact HS.out
  case round =>
    obtain ⟨k, l, e, hk, rfl, hp⟩ := hrel
    have HP := Lib.hid hp
    clear hp HS HP1
    by_cases hlt : k < len
    · obtain ⟨ad, kd, mo, rfl, hkd, mo0, mo1, hc0, hc1⟩ := (HAC.out.below HP.out.2.2).at_ (k := k) (by rw [HL.out]; exact hlt)
      have i0 : (0 : Int) ≤ (k : Int) := by omega
      have i1 : (k : Int) < (len : Int) := by omega
      have HW := Lib.hid (both_alloc HP.out (.cells #[.int .u8 (kd : Int), .int .i64 mo] 29))
      have HQ := Lib.hid (At.new wr 29 #[.int .u8 (kd : Int), .int .i64 mo])
      have hqg : h < wr.heap.size := HP.out.2.1.lt
      by_cases k0 : kd = 0
      · subst k0
        go_wp2_with fail
        refine (num_any _ g g l e HW.out.1 (Nat.le_refl _)).mono ?_
        rintro r w2 ⟨rfl, hp2, hg2⟩
        obtain ⟨hr2, hb2⟩ := both_step HW.out hgw hgh hg2
        have HP2 := Lib.hid hp2
        have HR2 := Lib.hid hr2
        have HB2 := Lib.hid hb2
        clear hp2 hg2 hr2 hb2
        go_wp2_with fail
        refine (rnum_any _ h _ A n c b l e HR2.out (by omega)).mono ?_
        rintro r w3 ⟨rfl, hr3, hg3⟩
        have HB3 := Lib.hid (both_end HP2.out HB2.out hgw hgh hr3 hg3)
        clear hr3 hg3
        generalize numL l = l3 at *
        generalize stopE e (numE l) = e3 at *
        have hbad := HB3.out.2.1.bad
        go_wp2_with fail
        go_quiet ((first
          | (go_at_call 21; exact quiet_same (left_any _ g g l3 e3 (HB3.out.1.drewN _)))
          | (go_at_call 22; exact Calls.quiet_of (rleft_any _ h _ A n c b l3 e3 (HB3.out.2.1.drewN _)))
          | (go_at_call 23; exact quiet_same (err_any _ g g l3 e3 (HB3.out.1.drewN _)))))
        go_wp2
        go_roundw
        case rel => exact ⟨k + 1, l3, e3, hlt, rfl, both_drew HB3.out _⟩
        case measure => simp [intOf]; omega
      by_cases k1 : kd = 1
      · subst k1
        have hcm : (wr.alloc (.cells #[.int .u8 (1 : Int), .int .i64 mo] 29)).cell? ⟨wr.heap.size, 1, none⟩ = some (.int .i64 mo) := HQ.out.cell 1
        have hqs : wr.heap.size < (wr.alloc (.cells #[.int .u8 (1 : Int), .int .i64 mo] 29)).heap.size := HQ.out.lt
        have HCM := Lib.hid hcm
        have HQS := Lib.hid hqs
        have HW1 : Hid (Both w g h A n c b l e (wr.alloc (.cells #[.int .u8 (1 : Int), .int .i64 mo] 29))) := HW.out
        go_wp2_with fail
        go_region_held3 (fun W => W.cell? ⟨wr.heap.size, 1, none⟩ = some (.int .i64 mo)) (first | go_keep | assumption) (first
          | (go_at_call 9; (with_reducible refine (upto_mid HW1.out hgw hgh HCM.out HQS.out hqg).mono ?_); rintro r w2 ⟨rfl, hp2, hr2, hb2, hcm2, hqs2⟩; have HP2 := Lib.hid hp2; have HR2 := Lib.hid hr2; have HB2 := Lib.hid hb2; have HC2 := Lib.hid hcm2; clear hp2 hr2 hb2)
          | (go_at_call 10; (with_reducible refine (rupto_mid HR2.out (by omega) HC2.out hqs2 hqg).mono ?_); rintro r w3 ⟨⟨rfl, hr3, hg3⟩, hcm3⟩; have HB3 := Lib.hid (both_end HP2.out HB2.out hgw hgh hr3 hg3); clear hr3 hg3))
        all_goals
          generalize uptoL (IntKind.u64.wrap mo).toNat l = l3 at *
          generalize uptoE (IntKind.u64.wrap mo).toNat l e = e3 at *
        have hbad := HB3.out.2.1.bad
        go_wp2_with fail
        go_quiet ((first
          | (go_at_call 21; exact quiet_same (left_any _ g g l3 e3 (HB3.out.1.drewN _)))
          | (go_at_call 22; exact Calls.quiet_of (rleft_any _ h _ A n c b l3 e3 (HB3.out.2.1.drewN _)))
          | (go_at_call 23; exact quiet_same (err_any _ g g l3 e3 (HB3.out.1.drewN _)))))
        go_wp2
        go_roundw
        case rel => exact ⟨k + 1, l3, e3, hlt, rfl, both_drew HB3.out _⟩
        case measure => simp [intOf]; omega
      by_cases k2 : kd = 2
      · subst k2
        go_wp2_with fail
        refine (byte_m _ g g l e HW.out.1 (Nat.le_refl _)).mono ?_
        rintro r w2 ⟨rfl, hp2, hg2⟩
        obtain ⟨hr2, hb2⟩ := both_step HW.out hgw hgh hg2
        have HP2 := Lib.hid hp2
        have HR2 := Lib.hid hr2
        have HB2 := Lib.hid hb2
        clear hp2 hg2 hr2 hb2
        go_wp2_with fail
        refine (rbyte_m _ h _ A n c b l e HR2.out (by omega)).mono ?_
        rintro r w3 ⟨rfl, hr3, hg3⟩
        have HB3 := Lib.hid (both_end HP2.out HB2.out hgw hgh hr3 hg3)
        clear hr3 hg3
        generalize byteL l = l3 at *
        generalize byteE l e = e3 at *
        have hbad := HB3.out.2.1.bad
        go_wp2_with fail
        go_quiet ((first
          | (go_at_call 21; exact quiet_same (left_any _ g g l3 e3 (HB3.out.1.drewN _)))
          | (go_at_call 22; exact Calls.quiet_of (rleft_any _ h _ A n c b l3 e3 (HB3.out.2.1.drewN _)))
          | (go_at_call 23; exact quiet_same (err_any _ g g l3 e3 (HB3.out.1.drewN _)))))
        go_wp2
        go_roundw
        case rel => exact ⟨k + 1, l3, e3, hlt, rfl, both_drew HB3.out _⟩
        case measure => simp [intOf]; omega
      by_cases k3 : kd = 3
      · subst k3
        go_wp2_with fail
        refine (flag_any _ g g l e HW.out.1 (Nat.le_refl _)).mono ?_
        rintro r w2 ⟨rfl, hp2, hg2⟩
        obtain ⟨hr2, hb2⟩ := both_step HW.out hgw hgh hg2
        have HP2 := Lib.hid hp2
        have HR2 := Lib.hid hr2
        have HB2 := Lib.hid hb2
        clear hp2 hg2 hr2 hb2
        go_wp2_with fail
        refine (rflag_any _ h _ A n c b l e HR2.out (by omega)).mono ?_
        rintro r w3 ⟨rfl, hr3, hg3⟩
        have HB3 := Lib.hid (both_end HP2.out HB2.out hgw hgh hr3 hg3)
        clear hr3 hg3
        generalize flagL l = l3 at *
        generalize flagE l e = e3 at *
        have hbad := HB3.out.2.1.bad
        go_wp2_with fail
        go_quiet ((first
          | (go_at_call 21; exact quiet_same (left_any _ g g l3 e3 (HB3.out.1.drewN _)))
          | (go_at_call 22; exact Calls.quiet_of (rleft_any _ h _ A n c b l3 e3 (HB3.out.2.1.drewN _)))
          | (go_at_call 23; exact quiet_same (err_any _ g g l3 e3 (HB3.out.1.drewN _)))))
        go_wp2
        go_roundw
        case rel => exact ⟨k + 1, l3, e3, hlt, rfl, both_drew HB3.out _⟩
        case measure => simp [intOf]; omega
      by_cases k4 : kd = 4
      · subst k4
        have hcm : (wr.alloc (.cells #[.int .u8 (4 : Int), .int .i64 mo] 29)).cell? ⟨wr.heap.size, 1, none⟩ = some (.int .i64 mo) := HQ.out.cell 1
        have hqs : wr.heap.size < (wr.alloc (.cells #[.int .u8 (4 : Int), .int .i64 mo] 29)).heap.size := HQ.out.lt
        have HCM := Lib.hid hcm
        have HQS := Lib.hid hqs
        have HW1 : Hid (Both w g h A n c b l e (wr.alloc (.cells #[.int .u8 (4 : Int), .int .i64 mo] 29))) := HW.out
        go_wp2_with fail
        go_region_held3 (fun W => W.cell? ⟨wr.heap.size, 1, none⟩ = some (.int .i64 mo)) (first | go_keep | assumption) (first
          | (go_at_call 15; (with_reducible refine (text_mid HW1.out hgw hgh HCM.out HQS.out hqg mo0 mo1).mono ?_); rintro r w2 ⟨rfl, hp2, hr2, hb2, hcm2, hqs2⟩; have HP2 := Lib.hid hp2; have HR2 := Lib.hid hr2; have HB2 := Lib.hid hb2; have HC2 := Lib.hid hcm2; clear hp2 hr2 hb2)
          | (go_at_call 16; (with_reducible refine (rtext_mid HR2.out (by omega) hc HC2.out hqs2 hqg mo0 mo1).mono ?_); rintro r w3 ⟨⟨rfl, hr3, hg3⟩, hcm3⟩; have HB3 := Lib.hid (both_end HP2.out HB2.out hgw hgh hr3 hg3); clear hr3 hg3))
        all_goals
          generalize textL mo l = l3 at *
          generalize textE mo l e = e3 at *
        have hbad := HB3.out.2.1.bad
        go_wp2_with fail
        go_quiet ((first
          | (go_at_call 21; exact quiet_same (left_any _ g g l3 e3 (HB3.out.1.drewN _)))
          | (go_at_call 22; exact Calls.quiet_of (rleft_any _ h _ A n c b l3 e3 (HB3.out.2.1.drewN _)))
          | (go_at_call 23; exact quiet_same (err_any _ g g l3 e3 (HB3.out.1.drewN _)))))
        go_wp2
        go_roundw
        case rel => exact ⟨k + 1, l3, e3, hlt, rfl, both_drew HB3.out _⟩
        case measure => simp [intOf]; omega
      by_cases k5 : kd = 5
      · subst k5
        go_wp2_with fail
        refine (fail_any _ g g l e 1 HW.out.1 (Nat.le_refl _) (by decide)).mono ?_
        rintro r w2 ⟨rfl, hp2, hg2⟩
        obtain ⟨hr2, hb2⟩ := both_step HW.out hgw hgh hg2
        have HP2 := Lib.hid hp2
        have HR2 := Lib.hid hr2
        have HB2 := Lib.hid hb2
        clear hp2 hg2 hr2 hb2
        go_wp2_with fail
        refine (rfail_any _ h _ A n c b l e 1 HR2.out (by omega) (by decide)).mono ?_
        rintro r w3 ⟨rfl, hr3, hg3⟩
        have HB3 := Lib.hid (both_end HP2.out HB2.out hgw hgh hr3 hg3)
        clear hr3 hg3
        obtain ⟨l3, hl3⟩ : ∃ l3 : List Nat, l3 = [] := ⟨_, rfl⟩
        rw [← hl3] at HB3
        clear hl3
        generalize stopE e 1 = e3 at *
        have hbad := HB3.out.2.1.bad
        go_wp2_with fail
        go_quiet ((first
          | (go_at_call 21; exact quiet_same (left_any _ g g l3 e3 (HB3.out.1.drewN _)))
          | (go_at_call 22; exact Calls.quiet_of (rleft_any _ h _ A n c b l3 e3 (HB3.out.2.1.drewN _)))
          | (go_at_call 23; exact quiet_same (err_any _ g g l3 e3 (HB3.out.1.drewN _)))))
        go_wp2
        go_roundw
        case rel => exact ⟨k + 1, l3, e3, hlt, rfl, both_drew HB3.out _⟩
        case measure => simp [intOf]; omega
      by_cases k6 : kd = 6
      · subst k6
        go_wp2_with fail
        refine (end_any _ g g l e HW.out.1 (Nat.le_refl _)).mono ?_
        rintro r w2 ⟨rfl, hp2, hg2⟩
        obtain ⟨hr2, hb2⟩ := both_step HW.out hgw hgh hg2
        have HP2 := Lib.hid hp2
        have HR2 := Lib.hid hr2
        have HB2 := Lib.hid hb2
        clear hp2 hg2 hr2 hb2
        go_wp2_with fail
        refine (rend_any _ h _ A n c b l e HR2.out (by omega)).mono ?_
        rintro r w3 ⟨rfl, hr3, hg3⟩
        have HB3 := Lib.hid (both_end HP2.out HB2.out hgw hgh hr3 hg3)
        clear hr3 hg3
        obtain ⟨l3, hl3⟩ : ∃ l3 : List Nat, l3 = [] := ⟨_, rfl⟩
        rw [← hl3] at HB3
        clear hl3
        generalize endE l e = e3 at *
        have hbad := HB3.out.2.1.bad
        go_wp2_with fail
        go_quiet ((first
          | (go_at_call 21; exact quiet_same (left_any _ g g l3 e3 (HB3.out.1.drewN _)))
          | (go_at_call 22; exact Calls.quiet_of (rleft_any _ h _ A n c b l3 e3 (HB3.out.2.1.drewN _)))
          | (go_at_call 23; exact quiet_same (err_any _ g g l3 e3 (HB3.out.1.drewN _)))))
        go_wp2
        go_roundw
        case rel => exact ⟨k + 1, l3, e3, hlt, rfl, both_drew HB3.out _⟩
        case measure => simp [intOf]; omega
      · have t0 : ((kd : Int) == 0) = false := by rw [beq_eq_false_iff_ne]; omega
        have t1 : ((kd : Int) == 1) = false := by rw [beq_eq_false_iff_ne]; omega
        have t2 : ((kd : Int) == 2) = false := by rw [beq_eq_false_iff_ne]; omega
        have t3 : ((kd : Int) == 3) = false := by rw [beq_eq_false_iff_ne]; omega
        have t4 : ((kd : Int) == 4) = false := by rw [beq_eq_false_iff_ne]; omega
        have t5 : ((kd : Int) == 5) = false := by rw [beq_eq_false_iff_ne]; omega
        have t6 : ((kd : Int) == 6) = false := by rw [beq_eq_false_iff_ne]; omega
        clear k0 k1 k2 k3 k4 k5 k6
        go_wp2_with fail
        refine (left_any _ g g l e HW.out.1).mono ?_
        rintro r w' ⟨rfl, rfl⟩
        go_wp2_with fail
        refine (rleft_any _ h _ A n c b l e HW.out.2.1).mono ?_
        rintro r w' ⟨rfl, m3, rfl⟩
        have HB3 := Lib.hid (both_drew HW.out m3)
        clear t0 t1 t2 t3 t4 t5 t6
        generalize (wr.alloc (.cells #[.int .u8 (kd : Int), .int .i64 mo] 29)).drewN m3 = w3 at *
        have hbad := HB3.out.2.1.bad
        go_wp2_with fail
        go_quiet ((first
          | (go_at_call 21; exact quiet_same (left_any _ g g l e (HB3.out.1.drewN _)))
          | (go_at_call 22; exact Calls.quiet_of (rleft_any _ h _ A n c b l e (HB3.out.2.1.drewN _)))
          | (go_at_call 23; exact quiet_same (err_any _ g g l e (HB3.out.1.drewN _)))))
        go_wp2
        go_roundw
        case rel => exact ⟨k + 1, l, e, hlt, rfl, both_drew HB3.out _⟩
        case measure => simp [intOf]; omega
    · obtain rfl : k = len := by omega
      go_wp2_with fail
      refine (end_any _ g g l e HP.out.1 (Nat.le_refl _)).mono ?_
      rintro r w2 ⟨rfl, hp2, hg2⟩
      obtain ⟨hr2, hb2⟩ := both_step HP.out hgw hgh hg2
      have HR2 := Lib.hid hr2
      have HB2 := Lib.hid hb2
      clear hp2 hg2 hr2 hb2
      go_wp2_with fail
      refine (rend_any _ h _ A n c b l e HR2.out (by omega)).mono ?_
      rintro r w3 ⟨rfl, hr3, hg3⟩
      have HB3 := Lib.hid (HB2.out.grown hg3 HB2.out.size (fun j hj => (by cases hj; omega)))
      clear hr3 hg3
      generalize endE l e = e3 at *
      go_wp2_with fail
      refine (works_any w3).mono ?_
      rintro r w4 ⟨rfl, hb4⟩
      go_wp2
      go_ret
      exact ⟨rfl, HB3.out.trans (hb4.mono HB3.out.size)⟩
end Go.Proofs.Ytpleafcjacbkkaa.Nu
