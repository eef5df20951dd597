/- The contract of the document's Seal: a new list of the kind, the body and the four bytes of their sum; nothing that was there has changed. Condition: at most 2^47 - 4096 bytes came in. -/
import Derived.Test.YtjipeiigcoipjaaDoorShut
namespace Go.Proofs.YtjipeiigcoipjaaDoor.Se
open Go.ChangeShapes Go.WideShapes Go.ChangeAt Go.RowKit
set_option linter.unusedVariables false

/-- what holds at each round's head: so many bytes of the sum stand behind. -/
def PutRel (w : World) (l : List Nat) (s : Nat) (o v i : Value) (wr : World) : Prop :=
  ∃ (k g cap n : Nat), k ≤ 4 ∧ i = .int .i64 (k : Int) ∧ v = .int .u32 ((s / 2 ^ (8 * k) : Nat) : Int) ∧ o = .slice (some ⟨g, 0, none⟩) n cap ∧ n = l.length + k ∧ wr.ownsRow w.heap.size 5 1 (.slice (some ⟨g, 0, none⟩) n cap) n (vals (l ++ Crc.unle k s)) ∧ Below w.heap.size w wr
theorem put_step {w wr : World} {l : List Nat} {s k g cap n : Nat} (hk : k < 4) (hn : n = l.length + k) (ho : wr.ownsRow w.heap.size 5 1 (.slice (some ⟨g, 0, none⟩) (n + 1) cap) (n + 1) (vals (l ++ Crc.unle k s ++ [s / 2 ^ (8 * k) % 256]))) (hb : Below w.heap.size w wr) :
    PutRel w l s (.slice (some ⟨g, 0, none⟩) (n + 1) cap) (.int .u32 (((s / 2 ^ (8 * k) : Nat) : Int) / 256)) (.int .i64 ((k : Int) + 1)) wr := by
  refine ⟨k + 1, g, cap, n + 1, by omega, by go_num, ?_, rfl, by omega, ?_, hb⟩
  · rw [Crc.next_byte]; go_num
  · rw [Crc.unle_snoc, ← List.append_assoc]; exact ho

theorem rmore_at (s r : Nat) (l : List Nat) (A : Option Addr) (B c n : Nat) (w : World) (hn : l.length = n) (hs : s < 4294967296) (hr : Crc.more s l = r) (hl : n ≤ 9223372036854775807) (hb : Bytes w B A l) :
    Calls Tryd.prog 18 #[.int .u32 (s : Int), .slice A n c] w fun e w' => e = .returned (.int .u32 ((r : Nat) : Int)) ∧ w = w' := by
  subst hn hr
  exact rmore_any s l A B c w hs hl hb
set_option maxHeartbeats 1000000 in
theorem rshut_any (w : World) (A : Option Addr) (l : List Nat) (n c x : Nat) (hn : l.length = n) (hA : A = none → n = 0 ∧ c = 0) (hb : Bytes w w.heap.size A l) (hx : x < 256) (hl : n ≤ 140737488351232) :
    Calls Tryd.prog 10 #[.int .u8 (x : Int), .slice A n c] w (AppPost w (Crc.shut (x :: l))) := by
  have b1 : Hid (Below w.heap.size w (w.alloc (.cells #[.int .u8 (x : Int)] 5))) := below_new w _
  have o1 : Hid ((w.alloc (.cells #[.int .u8 (x : Int)] 5)).ownsRow w.heap.size 5 1 (.slice (some ⟨w.heap.size, 0, none⟩) 1 1) 1 (vals [x])) := World.ownsRow_lit w #[.int .u8 (x : Int)] 1 (Nat.le_refl _) (by simp [maxLen]) rfl
  have k2 : Hid (Bytes (w.alloc (.cells #[.int .u8 (x : Int)] 5)) (w.alloc (.cells #[.int .u8 (x : Int)] 5)).heap.size A l) := hb.up b1.out
  have HN := Lib.hid hn
  have HA := Lib.hid hA
  have HS := Lib.hid (small_one hx hb.1)
  clear hb hn hA
  obtain ⟨s, hs⟩ : ∃ s, Crc.more 0 (x :: l) = s := ⟨_, rfl⟩
  have hS : s < 4294967296 := by rw [← hs]; exact Crc.more_lt HS.out (by decide)
  have HM := Lib.hid hs
  have HJ : Hid (Crc.shut (x :: l) = x :: l ++ Crc.unle 4 s) := by show _ = _; rw [← hs]; rfl
  clear hs
  go_enter Tryd.func10, Tryd.ntmps10
  go_wp2_with (
    (at_builtin
     refine wpList_onto rfl (.tmp 9) (.tmp 10) rfl rfl _ w.heap.size w.heap.size 1 1 [x] A l n c rfl rfl o1.out HA.out k2.out HN.out (by omega) b1.out.size ?_
     intro g2 cap2 w2 ho2 hg2 hB2
     have HO2 := Lib.hid ho2
     have HW2 : Hid (Below w.heap.size w w2) := b1.out.grown hg2 b1.out.size (fun k e => by cases e; exact Nat.le_refl _)
     clear ho2 hg2))
  have hl1 : Hid ((x :: l).length = 1 + n) := by show _ = _; rw [List.length_cons, HN.out]; omega
  have HB2 : Hid (Bytes w2 w2.heap.size (some ⟨g2, 0, none⟩) (x :: l)) := bytes_own HO2.out HS.out
  go_wp2_with fail
  refine (rmore_at 0 s (x :: l) (some ⟨g2, 0, none⟩) w2.heap.size cap2 (1 + n) w2 hl1.out (by decide) HM.out (by omega) HB2.out).mono ?_
  rintro e w' ⟨rfl, rfl⟩
  have HR : Hid (PutRel w (x :: l) s (.slice (some ⟨g2, 0, none⟩) (1 + n) cap2) (.int .u32 (s : Int)) (.int .i64 0) w2) := ⟨0, g2, cap2, 1 + n, by omega, rfl, by simp, rfl, by rw [hl1.out, Nat.add_zero], by rw [show Crc.unle 0 s = [] from rfl, List.append_nil]; exact HO2.out, HW2.out⟩
  clear HB2 HO2 HW2 k2 o1 b1
  go_wp2_with fail
  go_loopw [5, 6, 7] (fun o v i wr => PutRel w (x :: l) s o v i wr) (fun _ _ i _ => 4 - (intOf i).toNat)
  case atStart => exact HR.out
  case round =>
    clear HR
    obtain ⟨k, g, cap, m, hk, rfl, rfl, rfl, hm, ho, hb⟩ := hrel
    have HO := Lib.hid ho
    have HB := Lib.hid hb
    have HK := Lib.hid hm
    have hm5 : m ≤ n + 5 := by rw [HK.out, hl1.out]; omega
    clear ho hb hm
    by_cases hlt : k < 4
    · have hv : s / 2 ^ (8 * k) < 4294967296 := Nat.lt_of_le_of_lt (Nat.div_le_self _ _) hS
      have HT := Lib.hid (fun g cap wr => put_step (w := w) (wr := wr) (l := x :: l) (s := s) (g := g) (cap := cap) hlt HK.out)
      generalize s / 2 ^ (8 * k) = v at *
      have hbyte : Hid (Bytes (wr.alloc (.cells #[.int .u8 ((v % 256 : Nat) : Int)] 5)) (wr.alloc (.cells #[.int .u8 ((v % 256 : Nat) : Int)] 5)).heap.size (some ⟨wr.heap.size, 0, none⟩) [v % 256]) := (bytes_new wr [v % 256] _ rfl (small_one (Nat.mod_lt _ (by decide)) (fun y hy => by cases hy)) 5).more (by simp)
      go_wp2_with (
        (at_builtin
         refine wpList_onto rfl (.tmp 18) (.tmp 22) rfl rfl _ w.heap.size g m cap (x :: l ++ Crc.unle k s) (some ⟨wr.heap.size, 0, none⟩) [v % 256] 1 1 rfl rfl (HO.out.alloc _) (fun e => by cases e) hbyte.out rfl (by omega) (Nat.le_trans HB.out.size (by simp)) ?_
         intro g2 cap2 w2 ho2 hg2 hB2
         have hgg := (HO.out.lt g rfl).1
         have HO2 := Lib.hid ho2
         have HW2 : Hid (Below w.heap.size w w2) := (HB.out.alloc HB.out.size _).grown hg2 (Nat.le_trans HB.out.size (by simp)) (fun k hk => by cases hk; exact hgg)
         clear ho2 hg2))
      go_roundw
      case rel => exact HT.out g2 cap2 w2 HO2.out HW2.out
      case measure => simp [intOf]; omega
    · obtain rfl : k = 4 := by omega
      have hlen : Hid ((Crc.shut (x :: l)).length = m) := by show _ = _; rw [HJ.out, List.length_append, Crc.unle_length, HK.out]
      go_wp2
      go_ret
      exact ⟨g, cap, m, rfl, hlen.out, (HO.out.lt g rfl).1, by rw [HJ.out]; exact HO.out, HB.out⟩
end Go.Proofs.YtjipeiigcoipjaaDoor.Se
