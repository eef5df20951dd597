/- The contract of field's Quote. Condition: a text of at most 2^45 bytes. -/
import Derived.Test.YtmaiilhfdiimjaaDoorFSide
namespace Go.Proofs.YtmaiilhfdiimjaaDoor.Fd
open Go.ChangeShapes Go.WideShapes Go.ChangeAt Go.RowKit
set_option linter.unusedVariables false

/-- a list of one's own that holds these bytes. -/
def RowIs (w : World) (l : List UInt8) (v : Value) (wr : World) : Prop :=
  ∃ g cap n, v = .slice (some ⟨g, 0, none⟩) n cap ∧ l.length = n ∧ w.heap.size ≤ g ∧ wr.ownsRow w.heap.size 5 1 (.slice (some ⟨g, 0, none⟩) n cap) n (vals l) ∧ Below w.heap.size w wr
theorem cell_byte (w : World) (c : UInt8) (x : Int) (hx : x = (c.toNat : Int)) : ∀ (j : Nat) (u : Value), (vals [c])[j]? = some u → (w.alloc (.cells #[.int .u8 x] 5)).cell? ((⟨w.heap.size, 0, none⟩ : Addr).add j) = some u := by
  subst hx
  exact cell_one w _ 5
/-- what an append of one byte leaves. -/
theorem row_push {w wr w2 : World} {l : List UInt8} {c : UInt8} {x : Int} {g n : Nat} {v1 : Value} (hl : l.length = n) (hg : w.heap.size ≤ g) (hb : Below w.heap.size w wr)
    (hown : w2.ownsRow w.heap.size 5 1 v1 (n + 1) (vals l ++ vals [c])) (hgr : (wr.alloc (.cells #[.int .u8 x] 5)).grownBy w2 (some g)) : RowIs w (l ++ [c]) v1 w2 := by
  obtain ⟨g2, cap2, rfl, hg2⟩ := own_shape hown (.inl (by omega))
  refine ⟨g2, cap2, n + 1, rfl, by simp [hl], hg2, by rw [vals_append]; exact hown, ?_⟩
  exact (hb.alloc hb.size _).grown hgr (Nat.le_trans hb.size (by simp)) (fun k hk => by cases hk; exact hg)

/-- what holds at each round's head. -/
def QuoRel (w : World) (s : ByteArray) (v i : Value) (wr : World) : Prop :=
  ∃ k : Nat, k ≤ s.size ∧ i = .int .i64 (k : Int) ∧ RowIs w (34 :: escB (s.data.toList.take k)) v wr
theorem quo_start {w w1 w2 : World} {s : ByteArray} {v1 : Value} (hb : Below w.heap.size w w1) (hown : w2.ownsRow w.heap.size 5 1 v1 (0 + 1) (vals [] ++ vals [34]))
    (hgr : (w1.alloc (.cells #[.int .u8 34] 5)).grownBy w2 (some w.heap.size)) : QuoRel w s v1 (.int .i64 0) w2 := by
  refine ⟨0, by omega, rfl, ?_⟩
  rw [List.take_zero]
  exact row_push (l := []) rfl (Nat.le_refl _) hb hown hgr

set_option maxHeartbeats 8000000 in
theorem pquote_any (s : ByteArray) (w : World) (hs : s.size ≤ 35184372088832) :
    Calls Tryd.prog 15 #[.string s] w fun e w' => e = .returned (.string (ba (quoB s.data.toList))) ∧ Below w.heap.size w w' := by
  obtain ⟨i0, hi0, hz0, hz1, hz2⟩ := info_parts byte_info
  have hcap : 0 ≤ (s.size : Int) + 2 := by omega
  go_enter Tryd.func15, Tryd.ntmps15
  go_wp2_with (first
    | (at_make
       refine wpList_make_own _ rfl _ _ 34 rfl w.heap.size 5 i0 (.int .u8 0) 1 Tryd.underlying34 hi0 hz0 hz1 _ _ _ (s.size + 2) rfl rfl (by go_num) (by rw [hz2]; omega) (by simp only [maxLen]; omega) (Nat.le_refl _) ?_
       intro w1 ho1 hg1
       have HB1 : Hid (Below w.heap.size w w1) := Lib.hid ((Below.refl _ w).grown hg1 (Nat.le_refl _) (fun j hj => by cases hj))
       have HO1 := Lib.hid ho1
       clear ho1 hg1)
    | (at_builtin
       refine wpList_append_own _ rfl (.tmp 9) (.tmp 10) 34 rfl w.heap.size 5 i0 (.int .u8 0) 1 1 Tryd.underlying34 hi0 hz0 hz1 hz2 rfl (by decide) (.slice (some ⟨w.heap.size, 0, none⟩) 0 (s.size + 2)) 0 (vals []) rfl (HO1.out.alloc _) ⟨w1.heap.size, 0, none⟩ 1 1 (vals [34]) rfl rfl (cell_byte w1 34 34 rfl) (vals_one _) (by unfold maxLen; omega) (by omega) (Nat.le_trans HB1.out.size (by simp)) ?_
       intro v1 w2 hown1 hg2 hat1
       have HR : Hid (QuoRel w s v1 (.int .i64 0) w2) := Lib.hid (quo_start HB1.out hown1 hg2)
       clear hown1 hg2 hat1)
    | go_in)
  clear HO1 HB1
  go_loopw [3, 14] (fun v i wr => QuoRel w s v i wr) (fun _ i _ => s.size - (intOf i).toNat)
  case atStart => exact HR.out
  case round =>
    clear HR
    obtain ⟨k, hk, rfl, g, cap, n, rfl, hn, hg, hown, hb⟩ := hrel
    have HO := Lib.hid hown
    have HB := Lib.hid hb
    have HN := Lib.hid hn
    have hes := esc_less s.data.toList k
    have hn2 : n ≤ 2 * k + 1 := by simp at hn; omega
    clear hown hb hn hes
    by_cases hlt : k < s.size
    · have CS := fun W => special_any s[k] W
      have HE := Lib.hid (esc_step s k hlt)
      cases hsp : spc s[k] with
      | true =>
        rw [hsp] at CS
        have HE2 : Hid (34 :: escB (s.data.toList.take (k + 1)) = 34 :: escB (s.data.toList.take k) ++ [92] ++ [s[k]]) := Lib.hid (by rw [HE.out, if_pos hsp]; simp)
        clear HE
        go_wp2_with (first
          | (go_at_call 17; refine (CS _).mono ?_; rintro e w' ⟨rfl, rfl⟩)
          | (at_builtin
             refine wpList_append_own _ rfl (.tmp 21) (.tmp 22) 34 rfl w.heap.size 5 i0 (.int .u8 0) 1 1 Tryd.underlying34 hi0 hz0 hz1 hz2 rfl (by decide) (.slice (some ⟨g, 0, none⟩) n cap) n (vals (34 :: escB (s.data.toList.take k))) rfl (HO.out.alloc _) ⟨wr.heap.size, 0, none⟩ 1 1 (vals [92]) rfl rfl (cell_byte wr 92 92 rfl) (vals_one _) (by unfold maxLen; omega) (by omega) (Nat.le_trans HB.out.size (by simp)) ?_
             intro v1 w2 hown1 hg2 hat1
             obtain ⟨g1, cap1, n1, rfl, hn1, hgg1, ho1, hb1⟩ := row_push HN.out hg HB.out hown1 hg2
             obtain rfl : n1 = n + 1 := by rw [← hn1, List.length_append, HN.out]; rfl
             have HO1 := Lib.hid ho1
             have HB1 := Lib.hid hb1
             have HN1 := Lib.hid hn1
             clear hown1 hg2 hat1 ho1 hb1 hn1)
          | (at_builtin
             refine wpList_append_own _ rfl (.tmp 24) (.tmp 28) 34 rfl w.heap.size 5 i0 (.int .u8 0) 1 1 Tryd.underlying34 hi0 hz0 hz1 hz2 rfl (by decide) (.slice (some ⟨g1, 0, none⟩) (n + 1) cap1) (n + 1) (vals (34 :: escB (s.data.toList.take k) ++ [92])) rfl (HO1.out.alloc _) ⟨w2.heap.size, 0, none⟩ 1 1 (vals [s[k]]) rfl rfl (cell_byte w2 s[k] _ rfl) (vals_one _) (by unfold maxLen; omega) (by omega) (Nat.le_trans HB1.out.size (by simp)) ?_
             intro v1 w3 hown1 hg2 hat1
             have HR : Hid (QuoRel w s v1 (.int .i64 ((k : Int) + 1)) w3) := Lib.hid ⟨k + 1, by omega, by go_num, by rw [HE2.out]; exact row_push HN1.out hgg1 HB1.out hown1 hg2⟩
             clear hown1 hg2 hat1)
          | go_in)
        go_roundw
        case rel => exact HR.out
        case measure => simp [intOf]; omega
      | false =>
        rw [hsp] at CS
        have HE2 : Hid (34 :: escB (s.data.toList.take (k + 1)) = 34 :: escB (s.data.toList.take k) ++ [s[k]]) := Lib.hid (by rw [HE.out, if_neg (by simp [hsp])]; rfl)
        clear HE
        go_wp2_with (first
          | (go_at_call 17; refine (CS _).mono ?_; rintro e w' ⟨rfl, rfl⟩)
          | (at_builtin
             refine wpList_append_own _ rfl (.tmp 24) (.tmp 28) 34 rfl w.heap.size 5 i0 (.int .u8 0) 1 1 Tryd.underlying34 hi0 hz0 hz1 hz2 rfl (by decide) (.slice (some ⟨g, 0, none⟩) n cap) n (vals (34 :: escB (s.data.toList.take k))) rfl (HO.out.alloc _) ⟨wr.heap.size, 0, none⟩ 1 1 (vals [s[k]]) rfl rfl (cell_byte wr s[k] _ rfl) (vals_one _) (by unfold maxLen; omega) (by omega) (Nat.le_trans HB.out.size (by simp)) ?_
             intro v1 w2 hown1 hg2 hat1
             have HR : Hid (QuoRel w s v1 (.int .i64 ((k : Int) + 1)) w2) := Lib.hid ⟨k + 1, by omega, by go_num, by rw [HE2.out]; exact row_push HN.out hg HB.out hown1 hg2⟩
             clear hown1 hg2 hat1)
          | go_in)
        go_roundw
        case rel => exact HR.out
        case measure => simp [intOf]; omega
    · obtain rfl : k = s.size := by omega
      have hT : s.data.toList.take s.size = s.data.toList := List.take_of_length_le (by simp)
      rw [hT] at HO HN
      clear hT
      go_wp2_with (first
        | (at_builtin
           refine wpList_append_own _ rfl (.tmp 31) (.tmp 32) 34 rfl w.heap.size 5 i0 (.int .u8 0) 1 1 Tryd.underlying34 hi0 hz0 hz1 hz2 rfl (by decide) (.slice (some ⟨g, 0, none⟩) n cap) n (vals (34 :: escB s.data.toList)) rfl (HO.out.alloc _) ⟨wr.heap.size, 0, none⟩ 1 1 (vals [34]) rfl rfl (cell_byte wr 34 34 rfl) (vals_one _) (by unfold maxLen; omega) (by omega) (Nat.le_trans HB.out.size (by simp)) ?_
           intro v1 w2 hown1 hg2 hat1
           obtain ⟨g1, cap1, n1, rfl, hn1, hgg1, ho1, hb1⟩ := row_push HN.out hg HB.out hown1 hg2
           obtain rfl : n1 = n + 1 := by rw [← hn1, List.length_append, HN.out]; rfl
           have HB1 := Lib.hid hb1
           have hcv := conv' ho1 hn1
           have HV : Hid (34 :: escB s.data.toList ++ [34] = quoB s.data.toList) := Lib.hid rfl
           rw [HV.out] at hcv
           clear hown1 hg2 hat1 ho1 hb1 hn1)
        | go_in)
      go_ret
      exact ⟨rfl, HB1.out⟩
end Go.Proofs.YtmaiilhfdiimjaaDoor.Fd
