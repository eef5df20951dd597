/- The walk of the law PackNil: it returns true, for every text and every number; nothing that was there has changed. -/
import Derived.Test.YtpleafcjacbkkaaWorks
import Derived.Test.YtpleafcjacbkkaaNew
namespace Go.Proofs.Ytpleafcjacbkkaa.Nu
open Go.ChangeShapes Go.WideShapes Go.ChangeAt Go.RowKit
set_option linter.unusedVariables false

theorem PR.plain (w : World) : PR (w.alloc (.cells #[.slice none 0 0, .int .i64 0] 61)) w.heap.size w.heap.size [] 0 :=
  ⟨none, 0, 0, At.new _ _ _, Bytes.none_ _ _ _, rfl, Nat.le_refl _, by omega, fun _ => rfl, fun _ => rfl⟩

theorem PW.kept {w w' : World} {B g : Nat} {rb row : Option Nat} {m : List Nat} (h : PW w B g rb m) (hg : w.grownBy w' row) (hne : some g ≠ row) (hr : rb = none ∨ rb ≠ row) : PW w' B g rb m := by
  obtain ⟨v, n, h1, rfl, h3, h4⟩ := h
  exact ⟨v, n, h1.kept hg hne, rfl, h3.kept hg hr, h4⟩
theorem PW.below {w w' : World} {B g : Nat} {rb : Option Nat} {m : List Nat} (h : PW w B g rb m) (hb : Below w.heap.size w w') : PW w' B g rb m :=
  h.kept (turn_below hb none) (by simp) (by cases rb <;> simp)

/-- what holds at each round's head: some of the bytes have turned. -/
def NilRel (w3 : World) (N : Nat) (A : Option Addr) (n c : Nat) (i : Value) (wr : World) : Prop :=
  ∃ (k : Nat) (l : List Nat), k ≤ n ∧ i = .int .i64 (k : Int) ∧ Small l ∧ wr.ownsRow N 5 1 (.slice A n c) n (vals l) ∧ w3.grownBy wr (Value.slice A n c).ownBlock
theorem nil_round {w3 wr : World} {N g n c k : Nat} {l : List Nat} (hk : k < n) (hs : Small l) (ho : wr.ownsRow N 5 1 (.slice (some ⟨g, 0, none⟩) n c) n (vals l)) (hg : w3.grownBy wr (some g)) :
    ∃ x : Nat, x < 256 ∧ wr.cell? ⟨g, k, none⟩ = some (.int .u8 (x : Int)) ∧ wr.frozen? ⟨g, k, none⟩ = false ∧
      ∀ y : Nat, y < 256 → NilRel w3 N (some ⟨g, 0, none⟩) n c (.int .i64 ((k : Int) + 1)) (wr.setCell ⟨g, k, none⟩ (.int .u8 (y : Int))) := by
  have hl : l.length = n := by have := ho.1; rw [vals_length] at this; omega
  have hx : l[k]? = some (l[k]'(by omega)) := List.getElem?_eq_getElem (by omega)
  refine ⟨l[k]'(by omega), hs _ (List.getElem_mem _), ?_, ho.frozenAt k, fun y hy => ?_⟩
  · rw [ho.cellAt k (by omega), vals_get, hx]; rfl
  · obtain ⟨o2, g2⟩ := ho.stored k (.int .u8 (y : Int))
    refine ⟨k + 1, l.set k y, hk, rfl, ?_, ?_, hg.trans g2⟩
    · intro z hz
      rcases List.mem_or_eq_of_mem_set hz with h | h
      · exact hs z h
      · omega
    · have e : vals (l.set k y) = (vals l).set k (.int .u8 (y : Int)) := by unfold vals; rw [List.map_set]
      rw [e]; exact o2

set_option maxRecDepth 100000 in
set_option maxHeartbeats 4000000 in
theorem nil_walk (w : World) (s : ByteArray) (v : Nat) (hv : v < 18446744073709551616) :
    Calls Try.prog 5 #[.string s, .int .u64 (v : Int)] w fun r w' => r = .returned (.bool true) ∧ Below w.heap.size w w' := by
  have HR := Lib.hid (PR.plain w)
  have HB0 : Hid (Below w.heap.size w (w.alloc (.cells #[.slice none 0 0, .int .i64 0] 61))) := below_new w _
  go_enter Try.func5, Try.ntmps5
  go_wp2_with (first
    | (go_at_call 25; (with_reducible refine (nil25 _ _).mono ?_); rintro r w' ⟨rfl, rfl⟩)
    | (go_at_call 27; (with_reducible refine (nil27 _ _).mono ?_); rintro r w' ⟨rfl, rfl⟩)
    | (go_at_call 28; (with_reducible refine (nil28 _).mono ?_); rintro r w' ⟨rfl, rfl⟩)
    | (go_at_call 30; (with_reducible refine (nil30 _ _).mono ?_); rintro r w' ⟨rfl, rfl⟩)
    | (go_at_call 17; (with_reducible refine (nil17 _ _).mono ?_); rintro r w' ⟨rfl, rfl⟩)
    | (go_at_call 33; (with_reducible refine (nil33 _).mono ?_); rintro r w' ⟨rfl, rfl⟩)
    | (go_at_call 7; (with_reducible refine (nil7 _).mono ?_); rintro r w' ⟨rfl, rfl⟩)
    | (go_at_call 9; (with_reducible refine (nil9 _ _).mono ?_); rintro r w' ⟨rfl, rfl⟩)
    | (go_at_call 11; (with_reducible refine (nil11 _).mono ?_); rintro r w' ⟨rfl, rfl⟩)
    | (go_at_call 13; (with_reducible refine (nil13 _).mono ?_); rintro r w' ⟨rfl, rfl⟩)
    | (go_at_call 15; (with_reducible refine (nil15 _ _).mono ?_); rintro r w' ⟨rfl, rfl⟩)
    | (go_at_call 21; (with_reducible refine (nil21 _).mono ?_); rintro r w' ⟨rfl, rfl⟩)
    | (go_at_call 23; (with_reducible refine (nil23 _).mono ?_); rintro r w' ⟨rfl, rfl⟩)
    | (go_at_call 19; (with_reducible refine (nil19 _).mono ?_); rintro r w' ⟨rfl, rfl⟩))
  refine (left_any _ _ _ _ _ HR.out).mono ?_
  rintro r w' ⟨rfl, rfl⟩
  go_wp2_with fail
  refine (end_any _ _ _ _ _ HR.out (Nat.le_refl _)).mono ?_
  rintro r w1 ⟨rfl, hp1, hg1⟩
  have HP1 : Hid (PR w1 w.heap.size w.heap.size [] 0) := hp1
  have HB1 := Lib.hid (HB0.out.grown hg1 (by simp) (fun k h => (by cases h; exact Nat.le_refl _)))
  have ez : endE [] 0 = 0 := rfl
  rw [ez]
  clear hp1 hg1 ez
  go_wp2_with fail
  refine (byte_m _ _ _ _ _ HP1.out (Nat.le_refl _)).mono ?_
  rintro r w2 ⟨rfl, hp2, hg2⟩
  have HP2 : Hid (PR w2 w.heap.size w.heap.size [] 2) := hp2
  have HB2 := Lib.hid (HB1.out.grown hg2 HB1.out.size (fun k h => (by cases h; exact Nat.le_refl _)))
  have ez : byteV [] = 0 := rfl
  rw [ez]
  clear hp2 hg2 ez
  go_wp2_with fail
  refine (err_any _ _ _ _ _ HP2.out).mono ?_
  rintro r w' ⟨rfl, rfl⟩
  have HW := Lib.hid (PW.new w2)
  have HB2' : Hid (Below w.heap.size w (w2.alloc (.cells #[.slice none 0 0] 44))) := HB2.out.alloc HB2.out.size _
  go_wp2_with fail
  refine (wnum_any _ _ _ _ [] v HW.out hv (by simp)).mono ?_
  rintro r w3 ⟨rfl, rb3, hp3, hr3, ht3⟩
  have HP3 : Hid (PW w3 w2.heap.size w2.heap.size rb3 (enc v)) := hp3
  have HB3 := Lib.hid (HB2'.out.trans (below_two ht3 HB2.out.size (fun k h => (by cases h)) HB2'.out.size))
  have HS3 : Hid (w2.heap.size < w3.heap.size) := HP3.out.base.2
  clear hp3 hr3 ht3
  have hev : (enc v).length ≤ 9 := by have := blen_le v; rw [enc_length]; omega
  go_wp2_with fail
  refine (wbytes_any _ _ _ _ _ HP3.out (by omega)).mono ?_
  rintro r w4 ⟨A, n, c, rfl, hl4, hb4, hnc, hc4, hA4, hbel4, hown4⟩
  have hn9 : n ≤ 9 := by omega
  have HL4 := Lib.hid hl4
  have HB4 := Lib.hid hbel4
  have HO4 := Lib.hid hown4
  clear hl4 hb4 hA4 hbel4 hown4 hev
  have HS : Hid (NilRel w4 w3.heap.size A n c (.int .i64 0) w4) := ⟨0, enc v, Nat.zero_le _, rfl, enc_small v, HO4.out, turn_refl _ _⟩
  go_wp2_with fail
  go_loopw [86] (fun i wr => NilRel w4 w3.heap.size A n c i wr) (fun i _ => n - (intOf i).toNat)
  case atStart => exact HS.out
  case round =>
    obtain ⟨k, l, hk, rfl, hs, ho, hg⟩ := hrel
    by_cases hlt : k < n
    · obtain ⟨g, cap, hA, hbg, hgl⟩ := ho.form (by omega)
      cases hA
      obtain ⟨x, hx, hcell, hfz, hnext⟩ := nil_round hlt hs ho hg
      have HN := Lib.hid hnext
      have HO := Lib.hid ho
      have HG := Lib.hid hg
      have i0 : (0 : Int) ≤ (k : Int) := by omega
      have i1 : (k : Int) < (n : Int) := by omega
      clear hnext ho hg
      go_wp2
      go_roundw
      case rel =>
        have := HN.out ((x + 1) % 256) (Nat.mod_lt _ (by decide))
        have e : ((x : Int) + 1) % 256 = (((x + 1) % 256 : Nat) : Int) := by omega
        rw [e]; exact this
      case measure => simp [intOf]; omega
    · obtain rfl : k = n := by omega
      have HO := Lib.hid ho
      have HG := Lib.hid hg
      clear ho hg
      have HPW : Hid (PW wr w2.heap.size w2.heap.size rb3 (enc v)) := by
        refine (HP3.out.below HB4.out).kept HG.out ?_ ?_
        · intro e
          have := (HO4.out.lt _ e.symm).1
          have := HS3.out
          omega
        · cases hrb : rb3 with
          | none => exact .inl rfl
          | some kr =>
            refine .inr fun e => ?_
            have h1 := (HO4.out.lt _ e.symm).1
            have h2 := (HP3.out.row kr hrb).2
            omega
      have HBr : Hid (Below w.heap.size w wr) := (HB3.out.trans (HB4.out.mono HB3.out.size)).grown HG.out (Nat.le_trans HB3.out.size HB4.out.size) (fun j e => Nat.le_trans HB3.out.size (HO4.out.lt _ e).1)
      have hev : (enc v).length ≤ 9 := by have := blen_le v; rw [enc_length]; omega
      clear HO HG HS
      go_wp2_with fail
      refine (wbytes_any _ _ _ _ _ HPW.out (by omega)).mono ?_
      rintro r w5 ⟨A5, n5, c5, rfl, hl5, hb5, _, _, _, hbel5, _⟩
      have HL5 := Lib.hid hl5
      have HB5 := Lib.hid hb5
      have HBe5 := Lib.hid (HBr.out.trans (hbel5.mono HBr.out.size))
      clear hl5 hb5 hbel5
      go_wp2_with fail
      refine (rappend_any w5 none [] 0 0 v rfl (fun _ => ⟨rfl, rfl⟩) (Bytes.none_ _ _ _) (by omega) hv).mono ?_
      rintro r w6 ⟨g6, cap6, n6, rfl, hl6, hg6, ho6, hbel6⟩
      have HL6 : Hid ((enc v).length = n6) := hl6
      have HY6 : Hid (Bytes w6 w6.heap.size (some ⟨g6, 0, none⟩) (enc v)) := bytes_own ho6 (enc_small v)
      have HX6 := Lib.hid (HB5.out.up hbel6)
      have HBe6 := Lib.hid (HBe5.out.trans (hbel6.mono HBe5.out.size))
      clear hl6 hg6 ho6 hbel6
      go_wp2_with fail
      refine (equal_any w6 _ _ A5 (some ⟨g6, 0, none⟩) (enc v) (enc v) n5 n6 c5 cap6 HL5.out HL6.out HX6.out HY6.out).mono ?_
      rintro r w' ⟨rfl, rfl⟩
      have edt : decide (enc v = enc v) = true := decide_eq_true rfl
      rw [edt]
      clear edt
      go_wp2_with fail
      refine (works_any w6).mono ?_
      rintro r w7 ⟨rfl, hb7⟩
      go_wp2
      go_ret
      exact ⟨rfl, HBe6.out.trans (hb7.mono HBe6.out.size)⟩
end Go.Proofs.Ytpleafcjacbkkaa.Nu
