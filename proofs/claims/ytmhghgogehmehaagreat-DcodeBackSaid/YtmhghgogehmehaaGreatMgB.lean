/- Words and contracts that the proofs of this seat stand on, part 2 of 20. -/
import Derived.Test.YtmhghgogehmehaaGreatMgA
import Derived.Laws.CopyOwn
import Derived.Laws.AppendOwnNone
import Derived.Maps.AppendAt
import Derived.Deep.AppendLies
import Derived.Test.YtmhghgogehmehaaGreatProg
import Derived.WalkKit
import Derived.ProofKit
import Derived.OpenShut
import Derived.Lib.Hide
import Derived.Below
import Derived.Outline
import Derived.Laws.OwnMore
import Derived.OwnWalk
import Derived.BigQuiet
import Derived.Deep.QuietTactic
import Derived.KernelRfl
import Derived.Deep.RegionHeld3
import Derived.Laws.IdiomStrings
import Derived.Laws.Concat
import Derived.IntWalk

/- The contracts of num's Append and of the document's: a new list of the bytes that came in and the number's bytes behind them; nothing that was there has changed. Condition: at most 2^47 - 4096 bytes came in. -/
namespace Go.Proofs.YtmhghgogehmehaaGreat.Nu
open Go.ChangeShapes Go.WideShapes Go.ChangeAt Go.RowKit
set_option linter.unusedVariables false
set_option maxRecDepth 4000

theorem byte_info : (Tryz.prog.info? 5).map (fun i => (i.zero, i.size, i.bytes)) = some (some (.int .u8 0), 1, 1) := by kernel_rfl
theorem byte_size : (Tryz.prog.info? 5).map (·.size) = some 1 := by kernel_rfl

/-- a call that answers a new list of these bytes. -/
def AppPost (w : World) (m : List Nat) (e : Ending) (w' : World) : Prop :=
  ∃ g cap n, e = .returned (.slice (some ⟨g, 0, none⟩) n cap) ∧ m.length = n ∧ w.heap.size ≤ g ∧ w'.ownsRow w.heap.size 5 1 (.slice (some ⟨g, 0, none⟩) n cap) n (vals m) ∧ Below w.heap.size w w'

/-- what holds at each round's head. -/
def Rel (w : World) (l : List Nat) (v : Nat) (s i : Value) (wr : World) : Prop :=
  ∃ (k : Nat) (D : List Nat) (g cap n : Nat), k + D.length = blen v ∧ D ++ dig k v = dig (blen v) v ∧ i = .int .i64 ((k : Int) - 1) ∧ s = .slice (some ⟨g, 0, none⟩) n cap ∧ n = l.length + 1 + D.length ∧
    wr.ownsRow w.heap.size 5 1 (.slice (some ⟨g, 0, none⟩) n cap) n (vals (l ++ blen v :: D)) ∧ Below w.heap.size w wr

/-- what a step of the list leaves. -/
theorem own_shape {w w1 : World} {B n : Nat} {v1 : Value} {xs : List Value} (hown : w1.ownsRow B 5 1 v1 n xs) (hn : 0 < n ∨ ¬ v1 = .slice none 0 0) : ∃ g cap, v1 = .slice (some ⟨g, 0, none⟩) n cap ∧ B ≤ g := by
  rcases hown.2 with ⟨h, hz⟩ | ⟨g, cap, _, e, hg, _⟩
  · rcases hn with hn | hn
    · omega
    · exact absurd h hn
  · exact ⟨g, cap, e, hg⟩

theorem cell_one (w : World) (x : Value) (t : TypeId) : ∀ (j : Nat) (u : Value), [x][j]? = some u → (w.alloc (.cells #[x] t)).cell? ((⟨w.heap.size, 0, none⟩ : Addr).add j) = some u := by
  intro j u hu
  cases j with
  | zero =>
    rw [zero_add, World.cell?_alloc_new]
    simpa using hu
  | succ j => simp at hu

theorem rel_start {w w1 : World} {l : List Nat} {v g cap n : Nat} (hn : n = l.length + 1) (h : w1.ownsRow w.heap.size 5 1 (.slice (some ⟨g, 0, none⟩) n cap) n (vals (l ++ [blen v]))) (hb : Below w.heap.size w w1) :
    Rel w l v (.slice (some ⟨g, 0, none⟩) n cap) (.int .i64 ((blen v : Int) - 1)) w1 :=
  ⟨blen v, [], g, cap, n, by simp, by simp, rfl, rfl, by simpa using hn, h, hb⟩
theorem rel_end {w wr : World} {l : List Nat} {v g cap n : Nat} {D : List Nat} (h1 : 0 + D.length = blen v) (h2 : D ++ dig 0 v = dig (blen v) v) (hn : n = l.length + 1 + D.length)
    (h : wr.ownsRow w.heap.size 5 1 (.slice (some ⟨g, 0, none⟩) n cap) n (vals (l ++ blen v :: D))) (hb : Below w.heap.size w wr) :
    AppPost w (l ++ enc v) (.returned (.slice (some ⟨g, 0, none⟩) n cap)) wr := by
  have e : D = dig (blen v) v := by rw [← h2]; simp [dig]
  refine ⟨g, cap, n, rfl, ?_, (h.lt g rfl).1, ?_, hb⟩
  · rw [List.length_append, enc_length]; omega
  · unfold enc; rw [← e]; exact h
theorem rel_step {w wr : World} {l : List Nat} {v g cap n j b : Nat} {D : List Nat} (h1 : j + 1 + D.length = blen v) (h2 : D ++ dig (j + 1) v = dig (blen v) v) (hb1 : b = v / 256 ^ j % 256) (hn : n = l.length + 1 + D.length + 1)
    (h : wr.ownsRow w.heap.size 5 1 (.slice (some ⟨g, 0, none⟩) n cap) n (vals (l ++ blen v :: D) ++ vals [b])) (hb : Below w.heap.size w wr) :
    Rel w l v (.slice (some ⟨g, 0, none⟩) n cap) (.int .i64 ((j : Int) - 1)) wr := by
  refine ⟨j, D ++ [b], g, cap, n, by simp; omega, ?_, rfl, rfl, by simp; omega, ?_, hb⟩
  · rw [← h2, hb1]; simp [dig]
  · rw [← vals_append] at h
    simpa using h

/-- the bytes copied into a new row with room behind them. -/
theorem copied (w : World) (A : Option Addr) (l : List Nat) (n c cap : Nat) (hn : l.length = n) (hcap : n ≤ cap) (hm : cap ≤ maxLen) (hb : Bytes w w.heap.size A l) :
    ∃ w2, (Builtin.copy_ #[31, 31] 3 #[.slice (some ⟨w.heap.size, 0, none⟩) n cap, .slice A n c]).run Tryz.prog (w.alloc (.cells (madeCells #[.int .u8 0] cap) 5)) = .ok (.int .i64 (n : Int)) w2 ∧
      w2.ownsRow w.heap.size 5 1 (.slice (some ⟨w.heap.size, 0, none⟩) n cap) n (vals l) ∧ Below w.heap.size w w2 := by
  have hg : (w.alloc (.cells (madeCells #[.int .u8 0] cap) 5)).heap[w.heap.size]? = some (.cells (madeCells #[.int .u8 0] cap) 5 (0, 0)) := heap_alloc_new w _
  by_cases h0 : n = 0
  · subst h0
    obtain rfl := List.eq_nil_of_length_eq_zero hn
    refine ⟨_, run_copy_none (P := Tryz.prog) _ 31 31 3 5 _ _ _ _ _ _ Tryz.underlying31 byte_size rfl, ⟨rfl, .inr ⟨_, cap, _, rfl, Nat.le_refl _, hg, Nat.zero_le _, hm, by simp [madeCells], by simp [vals]⟩⟩, below_new w _⟩
  · obtain ⟨ad, rfl, hadb, hc⟩ := hb.2 (by omega)
    have hr := run_copy_row (P := Tryz.prog) (w.alloc (.cells (madeCells #[.int .u8 0] cap) 5)) 31 31 3 5 w.heap.size 0 n cap ad n c (madeCells #[.int .u8 0] cap) 5 (vals l) Tryz.underlying31 byte_size hg (by rw [vals_length, hn]; exact (Nat.min_self n).symm)
      (fun j u hu => by
        rw [vals_get] at hu
        obtain ⟨x, hx, rfl⟩ := Option.map_eq_some_iff.1 hu
        exact (World.cell?_alloc_lt _ _ _ (by rw [block_add]; exact hadb)).trans (hc j x hx))
      (by rw [vals_length, size_madeCells]; omega) (vals_one l)
    rw [vals_length, hn] at hr
    refine ⟨_, hr, ⟨by rw [vals_length]; omega, .inr ⟨_, cap, _, rfl, Nat.le_refl _, setRow_heap _ _ _ _ 5 _ hg, hcap, hm, ?_, ?_⟩⟩, below_setRow (below_new w _) (Nat.le_refl _) _⟩
    · simp [size_madeCells, vals_length]; omega
    · simp only [List.take_zero, List.nil_append, Nat.mul_one]
      rw [← hn, ← vals_length l]
      exact List.take_left

set_option maxHeartbeats 1600000 in
theorem append_any (w : World) (A : Option Addr) (l : List Nat) (n c v : Nat) (hn : l.length = n) (hb : Bytes w w.heap.size A l) (hl : n ≤ 140737488351232) (hv : v < 18446744073709551616) :
    Calls Tryz.prog 60 #[.slice A n c, .int .u64 (v : Int)] w (AppPost w (l ++ enc v)) := by
  obtain ⟨i0, hi0, hz0, hz1, hz2⟩ := info_parts byte_info
  have hB := Lib.hid hb
  have HN := Lib.hid hn
  clear hb hn
  have hbl := blen_le v
  obtain ⟨B, hBe⟩ : ∃ B, blen v = B := ⟨_, rfl⟩
  have HBe := Lib.hid hBe
  rw [hBe] at hbl
  clear hBe
  go_enter Tryz.func60, Tryz.ntmps60
  go_wp2_with fail
  refine (Sh.size_c v _ hv).mono ?_
  rintro e w' ⟨rfl, rfl⟩
  rw [HBe.out]
  have hmk := run_make (P := Tryz.prog) w 31 5 i0 (.int .u8 0) Tryz.underlying31 hi0 hz0 .i64 .i64 (n : Int) ((n : Int) + (1 + (B : Int))) (by omega) (by omega) (by rw [hz2]; omega) (by omega)
  have hmx : n + (1 + B) ≤ maxLen := by simp only [maxLen]; omega
  obtain ⟨w2, hcp, hown, hbel⟩ := copied w A l n c (n + (1 + B)) HN.out (by omega) hmx hB.out
  have HO := Lib.hid hown
  have HB := Lib.hid hbel
  clear hown hbel hmx
  go_wp2_with fail
  clear hmk hcp
  refine (Sh.len_c v _ hv).mono ?_
  rintro e w' ⟨rfl, rfl⟩
  rw [HBe.out]
  go_wp2_with (
    (at_builtin
     refine wpList_append_own _ rfl (.tmp 21) (.tmp 24) 31 rfl w.heap.size 5 i0 (.int .u8 0) 1 1 Tryz.underlying31 hi0 hz0 hz1 hz2 rfl (by decide) (.slice (some ⟨w.heap.size, 0, none⟩) n (n + (1 + B))) n (vals l) rfl (HO.out.alloc _) ⟨w2.heap.size, 0, none⟩ 1 1 (vals [B]) rfl rfl (cell_one w2 _ 5) (vals_one _) (by simp only [maxLen]; omega) (by omega) (Nat.le_trans HB.out.size (by simp)) ?_
     intro v1 w3 hown1 hg1 hat1))
  obtain ⟨g, cap, rfl, hgw⟩ := own_shape (w := w) hown1 (.inl (by omega))
  have hbel3 : Below w.heap.size w w3 := (HB.out.alloc HB.out.size _).grown hg1 (Nat.le_trans HB.out.size (by simp)) (fun k hk => by simp [Value.ownBlock] at hk; omega)
  have HR : Hid (Rel w l v (.slice (some ⟨g, 0, none⟩) (n + 1) cap) (.int .i64 ((B : Int) - 1)) w3) := by
    have := rel_start (w := w) (l := l) (v := v) (by rw [HN.out]) (by rw [HBe.out, vals_append]; exact hown1) hbel3
    rw [HBe.out] at this
    exact this
  clear hown1 hg1 hat1 hbel3 HO HB
  go_loopw [5, 7] (fun s i wr => Rel w l v s i wr) (fun _ i _ => (intOf i + 1).toNat)
  case atStart => exact HR.out
  case round =>
    clear HR
    obtain ⟨k, D, g, cap, m, h1, h2, rfl, rfl, h3, hown, hbel⟩ := hrel
    have HO := Lib.hid hown
    have HB := Lib.hid hbel
    have H1 := Lib.hid h1
    have H2 := Lib.hid h2
    have H3 := Lib.hid h3
    have hk8 : k ≤ 8 := by have := blen_le v; omega
    have hm : m ≤ 140737488351232 + 9 := by have := blen_le v; have := HN.out; omega
    clear h1 h2 h3 hown hbel
    cases k with
    | zero =>
      go_wp2
      go_ret
      exact rel_end H1.out H2.out H3.out HO.out HB.out
    | succ j =>
      have hj : ((j + 1 : Nat) : Int) - 1 = (j : Int) := by omega
      rw [hj]
      have hj8 : j < 8 := by omega
      clear hj hk8
      go_wp2_with fail
      refine (Sh.byte_c v j _ hv hj8).mono ?_
      rintro e w' ⟨rfl, rfl⟩
      obtain ⟨b, hb⟩ : ∃ b, b = v / 256 ^ j % 256 := ⟨_, rfl⟩
      have HBB := Lib.hid hb
      rw [← hb]
      clear hb
      go_wp2_with (
        (at_builtin
         refine wpList_append_own _ rfl (.tmp 32) (.tmp 36) 31 rfl w.heap.size 5 i0 (.int .u8 0) 1 1 Tryz.underlying31 hi0 hz0 hz1 hz2 rfl (by decide) (.slice (some ⟨g, 0, none⟩) m cap) m (vals (l ++ blen v :: D)) rfl (HO.out.alloc _) ⟨wr.heap.size, 0, none⟩ 1 1 (vals [b]) rfl rfl (cell_one wr _ 5) (vals_one _) (by simp only [maxLen]; omega) (by omega) (Nat.le_trans HB.out.size (by simp)) ?_
         intro v1 w4 hown1 hg1 hat1))
      obtain ⟨g', cap', rfl, hgw'⟩ := own_shape (w := w) hown1 (.inl (by omega))
      have hgg := (HO.out.lt g rfl).1
      have hbel4 : Below w.heap.size w w4 := (HB.out.alloc HB.out.size _).grown hg1 (Nat.le_trans HB.out.size (by simp)) (fun k hk => by simp [Value.ownBlock] at hk; omega)
      have HR : Hid (Rel w l v (.slice (some ⟨g', 0, none⟩) (m + 1) cap') (.int .i64 ((j : Int) - 1)) w4) := rel_step H1.out H2.out HBB.out (by rw [H3.out]) hown1 hbel4
      clear hown1 hg1 hat1 hbel4
      go_wp2
      go_roundw
      case rel => exact HR.out
      case measure => simp [intOf]

set_option maxHeartbeats 1600000 in
theorem rappend_any (w : World) (A : Option Addr) (l : List Nat) (n c v : Nat) (hn : l.length = n) (hA : A = none → n = 0 ∧ c = 0) (hb : Bytes w w.heap.size A l) (hl : n ≤ 140737488351232) (hv : v < 18446744073709551616) :
    Calls Tryz.prog 39 #[.slice A n c, .int .u64 (v : Int)] w (AppPost w (l ++ enc v)) := by
  obtain ⟨i0, hi0, hz0, hz1, hz2⟩ := info_parts byte_info
  have hB := Lib.hid hb
  have HN := Lib.hid hn
  clear hb hn
  have hbl := blen_le v
  obtain ⟨B, hBe⟩ : ∃ B, blen v = B := ⟨_, rfl⟩
  have HBe := Lib.hid hBe
  rw [hBe] at hbl
  clear hBe
  cases A with
  | none =>
    obtain ⟨rfl, rfl⟩ := hA rfl
    clear hA
    have HO : Hid ((w.alloc (.cells #[] 5)).ownsRow w.heap.size 5 1 (.slice (some ⟨w.heap.size, 0, none⟩) 0 0) 0 (vals l)) := by
      rw [List.eq_nil_of_length_eq_zero HN.out]
      exact World.ownsRow_lit w #[] 0 (Nat.le_refl _) (by simp [maxLen]) rfl
    have HB : Hid (Below w.heap.size w (w.alloc (.cells #[] 5))) := below_new w _
    go_enter Tryz.func39, Tryz.ntmps39
    go_wp2_with (
      (at_builtin
       refine wpList_append_own_none rfl (.tmp 8) (.tmp 9) 31 rfl w.heap.size 5 i0 1 Tryz.underlying31 hi0 (.slice (some ⟨w.heap.size, 0, none⟩) 0 0) 0 (vals l) rfl HO.out rfl ?_))
    generalize w.alloc (.cells #[] 5) = w2 at *
    refine (Sh.rlen_c v _ hv).mono ?_
    rintro e w' ⟨rfl, rfl⟩
    rw [HBe.out]
    go_wp2_with (
      (at_builtin
       refine wpList_append_own _ rfl (.tmp 13) (.tmp 16) 31 rfl w.heap.size 5 i0 (.int .u8 0) 1 1 Tryz.underlying31 hi0 hz0 hz1 hz2 rfl (by decide) (.slice (some ⟨w.heap.size, 0, none⟩) 0 0) 0 (vals l) rfl (HO.out.alloc _) ⟨w2.heap.size, 0, none⟩ 1 1 (vals [B]) rfl rfl (cell_one w2 _ 5) (vals_one _) (by simp only [maxLen]; omega) (by omega) (Nat.le_trans HB.out.size (by simp)) ?_
       intro v1 w3 hown1 hg1 hat1))
    obtain ⟨g, cap, rfl, hgw⟩ := own_shape (w := w) hown1 (.inl (by omega))
    have hbel3 : Below w.heap.size w w3 := (HB.out.alloc HB.out.size _).grown hg1 (Nat.le_trans HB.out.size (by simp)) (fun k hk => by simp [Value.ownBlock] at hk; omega)
    have HR : Hid (Rel w l v (.slice (some ⟨g, 0, none⟩) (0 + 1) cap) (.int .i64 ((B : Int) - 1)) w3) := by
      have := rel_start (w := w) (l := l) (v := v) (by rw [HN.out]) (by rw [HBe.out, vals_append]; exact hown1) hbel3
      rw [HBe.out] at this
      exact this
    clear hown1 hg1 hat1 hbel3 HO HB
    simp only [Nat.zero_add]
    go_loopw [5, 7] (fun s i wr => Rel w l v s i wr) (fun _ i _ => (intOf i + 1).toNat)
    case atStart => exact HR.out
    case round =>
      clear HR
      obtain ⟨k, D, g, cap, m, h1, h2, rfl, rfl, h3, hown, hbel⟩ := hrel
      have HO := Lib.hid hown
      have HB := Lib.hid hbel
      have H1 := Lib.hid h1
      have H2 := Lib.hid h2
      have H3 := Lib.hid h3
      have hk8 : k ≤ 8 := by have := blen_le v; omega
      have hm : m ≤ 140737488351232 + 9 := by have := blen_le v; have := HN.out; omega
      clear h1 h2 h3 hown hbel
      cases k with
      | zero =>
        go_wp2
        go_ret
        exact rel_end H1.out H2.out H3.out HO.out HB.out
      | succ j =>
        have hj : ((j + 1 : Nat) : Int) - 1 = (j : Int) := by omega
        rw [hj]
        have hj8 : j < 8 := by omega
        clear hj hk8
        go_wp2_with fail
        refine (Sh.rbyte_c v j _ hv hj8).mono ?_
        rintro e w' ⟨rfl, rfl⟩
        obtain ⟨b, hb⟩ : ∃ b, b = v / 256 ^ j % 256 := ⟨_, rfl⟩
        have HBB := Lib.hid hb
        rw [← hb]
        clear hb
        go_wp2_with (
          (at_builtin
           refine wpList_append_own _ rfl (.tmp 24) (.tmp 28) 31 rfl w.heap.size 5 i0 (.int .u8 0) 1 1 Tryz.underlying31 hi0 hz0 hz1 hz2 rfl (by decide) (.slice (some ⟨g, 0, none⟩) m cap) m (vals (l ++ blen v :: D)) rfl (HO.out.alloc _) ⟨wr.heap.size, 0, none⟩ 1 1 (vals [b]) rfl rfl (cell_one wr _ 5) (vals_one _) (by simp only [maxLen]; omega) (by omega) (Nat.le_trans HB.out.size (by simp)) ?_
           intro v1 w4 hown1 hg1 hat1))
        obtain ⟨g', cap', rfl, hgw'⟩ := own_shape (w := w) hown1 (.inl (by omega))
        have hgg := (HO.out.lt g rfl).1
        have hbel4 : Below w.heap.size w w4 := (HB.out.alloc HB.out.size _).grown hg1 (Nat.le_trans HB.out.size (by simp)) (fun k hk => by simp [Value.ownBlock] at hk; omega)
        have HR : Hid (Rel w l v (.slice (some ⟨g', 0, none⟩) (m + 1) cap') (.int .i64 ((j : Int) - 1)) w4) := rel_step H1.out H2.out HBB.out (by rw [H3.out]) hown1 hbel4
        clear hown1 hg1 hat1 hbel4
        go_wp2
        go_roundw
        case rel => exact HR.out
        case measure => simp [intOf]
  | some ad =>
    clear hA
    have HC : Hid (∀ j u, (vals l)[j]? = some u → (w.alloc (.cells #[] 5)).cell? (ad.add j) = some u) := by
      intro j u hu
      rw [vals_get] at hu
      obtain ⟨x, hx, rfl⟩ := Option.map_eq_some_iff.1 hu
      have hjl : j < l.length := (List.getElem?_eq_some_iff.1 hx).1
      obtain ⟨ad', e, hadb, hc⟩ := hB.out.2 (by omega)
      obtain rfl := Option.some.inj e
      exact (World.cell?_alloc_lt _ _ _ (by rw [block_add]; exact hadb)).trans (hc j x hx)
    go_enter Tryz.func39, Tryz.ntmps39
    go_wp2_with (
      (at_builtin
       refine wpList_append_own _ rfl (.tmp 8) (.tmp 9) 31 rfl w.heap.size 5 i0 (.int .u8 0) 1 1 Tryz.underlying31 hi0 hz0 hz1 hz2 rfl (by decide) (.slice (some ⟨w.heap.size, 0, none⟩) 0 0) 0 [] rfl (World.ownsRow_lit w #[] 0 (Nat.le_refl _) (by simp [maxLen]) rfl) ad n c (vals l) rfl (by rw [vals_length, HN.out, Nat.mul_one]) HC.out (vals_one l) (by simp only [maxLen]; omega) (by omega) (by simp) ?_
       intro v1 w2 hown1 hg1 hat1))
    simp only [Nat.zero_add, List.nil_append] at hown1
    obtain ⟨g0, cap0, rfl, hgw0⟩ := own_shape (w := w) hown1 (.inr (fun h => by simp at hat1; exact hat1 h))
    have hbel : Below w.heap.size w w2 := (below_new w _).grown hg1 (by simp) (fun k hk => by simp [Value.ownBlock] at hk; omega)
    have HO := Lib.hid hown1
    have HB := Lib.hid hbel
    clear hown1 hg1 hat1 hbel HC
    refine (Sh.rlen_c v _ hv).mono ?_
    rintro e w' ⟨rfl, rfl⟩
    rw [HBe.out]
    go_wp2_with (
      (at_builtin
       refine wpList_append_own _ rfl (.tmp 13) (.tmp 16) 31 rfl w.heap.size 5 i0 (.int .u8 0) 1 1 Tryz.underlying31 hi0 hz0 hz1 hz2 rfl (by decide) (.slice (some ⟨g0, 0, none⟩) n cap0) n (vals l) rfl (HO.out.alloc _) ⟨(w2).heap.size, 0, none⟩ 1 1 (vals [B]) rfl rfl (cell_one (w2) _ 5) (vals_one _) (by simp only [maxLen]; omega) (by omega) (Nat.le_trans HB.out.size (by simp)) ?_
       intro v1 w3 hown1 hg1 hat1))
    obtain ⟨g, cap, rfl, hgw⟩ := own_shape (w := w) hown1 (.inl (by omega))
    have hbel3 : Below w.heap.size w w3 := (HB.out.alloc HB.out.size _).grown hg1 (Nat.le_trans HB.out.size (by simp)) (fun k hk => by simp [Value.ownBlock] at hk; omega)
    have HR : Hid (Rel w l v (.slice (some ⟨g, 0, none⟩) (n + 1) cap) (.int .i64 ((B : Int) - 1)) w3) := by
      have := rel_start (w := w) (l := l) (v := v) (by rw [HN.out]) (by rw [HBe.out, vals_append]; exact hown1) hbel3
      rw [HBe.out] at this
      exact this
    clear hown1 hg1 hat1 hbel3 HO HB
    go_loopw [5, 7] (fun s i wr => Rel w l v s i wr) (fun _ i _ => (intOf i + 1).toNat)
    case atStart => exact HR.out
    case round =>
      clear HR
      obtain ⟨k, D, g, cap, m, h1, h2, rfl, rfl, h3, hown, hbel⟩ := hrel
      have HO := Lib.hid hown
      have HB := Lib.hid hbel
      have H1 := Lib.hid h1
      have H2 := Lib.hid h2
      have H3 := Lib.hid h3
      have hk8 : k ≤ 8 := by have := blen_le v; omega
      have hm : m ≤ 140737488351232 + 9 := by have := blen_le v; have := HN.out; omega
      clear h1 h2 h3 hown hbel
      cases k with
      | zero =>
        go_wp2
        go_ret
        exact rel_end H1.out H2.out H3.out HO.out HB.out
      | succ j =>
        have hj : ((j + 1 : Nat) : Int) - 1 = (j : Int) := by omega
        rw [hj]
        have hj8 : j < 8 := by omega
        clear hj hk8
        go_wp2_with fail
        refine (Sh.rbyte_c v j _ hv hj8).mono ?_
        rintro e w' ⟨rfl, rfl⟩
        obtain ⟨b, hb⟩ : ∃ b, b = v / 256 ^ j % 256 := ⟨_, rfl⟩
        have HBB := Lib.hid hb
        rw [← hb]
        clear hb
        go_wp2_with (
          (at_builtin
           refine wpList_append_own _ rfl (.tmp 24) (.tmp 28) 31 rfl w.heap.size 5 i0 (.int .u8 0) 1 1 Tryz.underlying31 hi0 hz0 hz1 hz2 rfl (by decide) (.slice (some ⟨g, 0, none⟩) m cap) m (vals (l ++ blen v :: D)) rfl (HO.out.alloc _) ⟨wr.heap.size, 0, none⟩ 1 1 (vals [b]) rfl rfl (cell_one wr _ 5) (vals_one _) (by simp only [maxLen]; omega) (by omega) (Nat.le_trans HB.out.size (by simp)) ?_
           intro v1 w4 hown1 hg1 hat1))
        obtain ⟨g', cap', rfl, hgw'⟩ := own_shape (w := w) hown1 (.inl (by omega))
        have hgg := (HO.out.lt g rfl).1
        have hbel4 : Below w.heap.size w w4 := (HB.out.alloc HB.out.size _).grown hg1 (Nat.le_trans HB.out.size (by simp)) (fun k hk => by simp [Value.ownBlock] at hk; omega)
        have HR : Hid (Rel w l v (.slice (some ⟨g', 0, none⟩) (m + 1) cap') (.int .i64 ((j : Int) - 1)) w4) := rel_step H1.out H2.out HBB.out (by rw [H3.out]) hown1 hbel4
        clear hown1 hg1 hat1 hbel4
        go_wp2
        go_roundw
        case rel => exact HR.out
        case measure => simp [intOf]
end Go.Proofs.YtmhghgogehmehaaGreat.Nu

/- Words for the memory that the claims of layer pack speak of: a block that is just these cells, a world in which one block alone has turned; and the plain functions that say what a reader tells and what is left to it. No program is walked here. -/
namespace Go.Proofs.YtmhghgogehmehaaGreat.Nu
open Go.ChangeShapes Go.WideShapes Go.ChangeAt Go.RowKit
set_option linter.unusedVariables false
set_option maxRecDepth 4000

/-- block g is these cells, of the type t, and may be written. -/
def At (w : World) (g : Nat) (t : TypeId) (cs : Array Value) : Prop := w.heap[g]? = some (.cells cs t (0, 0))
theorem At.lt {w : World} {g : Nat} {t : TypeId} {cs : Array Value} (h : At w g t cs) : g < w.heap.size := by
  rcases Nat.lt_or_ge g w.heap.size with hl | hl
  · exact hl
  · unfold At at h; rw [Array.getElem?_eq_none hl] at h; cases h
theorem At.cell {w : World} {g : Nat} {t : TypeId} {cs : Array Value} (h : At w g t cs) (i : Nat) : w.cell? ⟨g, i, none⟩ = cs[i]? := cell_of_row w g i cs t (0, 0) h
theorem At.frozen {w : World} {g : Nat} {t : TypeId} {cs : Array Value} (h : At w g t cs) (i : Nat) : w.frozen? ⟨g, i, none⟩ = false := by
  unfold At at h
  simp [World.frozen?, h]
theorem At.new (w : World) (t : TypeId) (cs : Array Value) : At (w.alloc (.cells cs t)) w.heap.size t cs := heap_alloc_new w _
theorem At.kept {w w' : World} {g : Nat} {t : TypeId} {cs : Array Value} {row : Option Nat} (h : At w g t cs) (hg : w.grownBy w' row) (hne : some g ≠ row) : At w' g t cs := (hg.block g h.lt hne).trans h
theorem At.below {w w' : World} {g B : Nat} {t : TypeId} {cs : Array Value} (h : At w g t cs) (hb : Below B w w') (hg : g < B) : At w' g t cs := (hb.block g hg).trans h
theorem At.set {w : World} {g : Nat} {t : TypeId} {cs : Array Value} (h : At w g t cs) (i : Nat) (u : Value) : At (w.setCell ⟨g, i, none⟩ u) g t (cs.setIfInBounds i u) := by
  unfold At at h ⊢
  simp [World.setCell, Array.getElem?_modify, h]

theorem turn_refl (w : World) (row : Option Nat) : w.grownBy w row := ⟨rfl, rfl, rfl, Nat.le_refl _, fun _ _ _ => rfl⟩
theorem turn_drewN (w : World) (n : Nat) (row : Option Nat) : w.grownBy (w.drewN n) row := ⟨rfl, rfl, rfl, Nat.le_refl _, fun _ _ _ => rfl⟩
theorem turn_set (w : World) (g i : Nat) (u : Value) : w.grownBy (w.setCell ⟨g, i, none⟩ u) (some g) :=
  ⟨rfl, rfl, rfl, by simp [World.setCell], fun k _ hne => Below.heap_setCell w ⟨g, i, none⟩ u k (fun e => hne (by rw [e]))⟩
theorem turn_below {w w' : World} (h : Below w.heap.size w w') (row : Option Nat) : w.grownBy w' row := ⟨h.os, h.tape, h.output, h.size, fun i hi _ => h.block i hi⟩
theorem Bytes.kept {w w' : World} {B : Nat} {A : Option Addr} {l : List Nat} {row : Option Nat} (h : Bytes w B A l) (hg : w.grownBy w' row) (hB : B ≤ w.heap.size) (hr : ∀ k, row = some k → B ≤ k) : Bytes w' B A l :=
  h.below ((Below.refl B w).grown hg hB hr)

/-- the first error stays. -/
def stopE (e f : Nat) : Nat := if e = 0 then f else e
theorem stop_zero (f : Nat) : stopE 0 f = f := if_pos rfl
theorem stop_some {e : Nat} (h : e ≠ 0) (f : Nat) : stopE e f = e := if_neg h
/-- the number that stands ahead, what is behind it, and the error. -/
def numV : List Nat → Nat
  | [] => 0
  | x :: r => if form x r = true ∧ x ≤ r.length then val (r.take x) else 0
def numL : List Nat → List Nat
  | [] => []
  | x :: r => if form x r = true ∧ x ≤ r.length then r.drop x else []
def numE : List Nat → Nat
  | [] => 2
  | x :: r => if form x r = true then (if x ≤ r.length then 0 else 2) else 4
def uptoV (m : Nat) (l : List Nat) : Nat := if m < numV l then 0 else numV l
def uptoL (m : Nat) (l : List Nat) : List Nat := if m < numV l then [] else numL l
def uptoE (m : Nat) (l : List Nat) (e : Nat) : Nat := if m < numV l then stopE (stopE e (numE l)) 4 else stopE e (numE l)
def takeV (k : Nat) (l : List Nat) : List Nat := if k ≤ l.length then l.take k else []
def takeL (k : Nat) (l : List Nat) : List Nat := if k ≤ l.length then l.drop k else []
def takeE (k : Nat) (l : List Nat) (e : Nat) : Nat := if k ≤ l.length then e else stopE e 2
def byteV : List Nat → Nat
  | [] => 0
  | x :: _ => x
def byteL : List Nat → List Nat
  | [] => []
  | _ :: r => r
def byteE (l : List Nat) (e : Nat) : Nat := if l = [] then stopE e 2 else e
def flagV (l : List Nat) : Bool := decide (byteV l = 1)
def flagL (l : List Nat) : List Nat := if byteV l ≤ 1 then byteL l else []
def flagE (l : List Nat) (e : Nat) : Nat := if byteV l ≤ 1 then byteE l e else stopE (byteE l e) 4
def textV (m : Int) (l : List Nat) : List Nat := if m.toNat < numV l then [] else takeV (numV l) (numL l)
def textL (m : Int) (l : List Nat) : List Nat := if m.toNat < numV l then [] else takeL (numV l) (numL l)
def textE (m : Int) (l : List Nat) (e : Nat) : Nat := if m.toNat < numV l then stopE (stopE e (numE l)) 3 else takeE (numV l) (numL l) (stopE e (numE l))
def endE (l : List Nat) (e : Nat) : Nat := if l = [] then e else stopE e 4

theorem numV_cons (x : Nat) (r : List Nat) : numV (x :: r) = if form x r = true ∧ x ≤ r.length then val (r.take x) else 0 := rfl
theorem numL_cons (x : Nat) (r : List Nat) : numL (x :: r) = if form x r = true ∧ x ≤ r.length then r.drop x else [] := rfl
theorem numE_cons (x : Nat) (r : List Nat) : numE (x :: r) = if form x r = true then (if x ≤ r.length then 0 else 2) else 4 := rfl
theorem what_num {x : Nat} {r : List Nat} {a v y f : Nat} (h : What x r a v y f) : numV (x :: r) = v ∧ numE (x :: r) = f ∧ (f = 0 → form x r = true ∧ x ≤ r.length ∧ y = a + 1 + x ∧ numL (x :: r) = r.drop x) ∧ (f ≠ 0 → v = 0 ∧ numL (x :: r) = []) := by
  rw [numV_cons, numE_cons, numL_cons]
  cases h with
  | form h => simp [h]
  | short h hl =>
    have : ¬ x ≤ r.length := by omega
    simp [h, this]
  | ok h hl => simp [h, hl]
theorem numV_lt {l : List Nat} (hs : Small l) : numV l < 18446744073709551616 := by
  cases l with
  | nil => decide
  | cons x r =>
    rw [numV_cons]
    by_cases h : form x r = true ∧ x ≤ r.length
    · rw [if_pos h]
      have hx : x ≤ 8 := (form_true h.1).1
      have h1 := val_lt (small_take (fun y hy => hs y (List.mem_cons_of_mem _ hy) : Small r) x)
      have h2 : 256 ^ (r.take x).length ≤ 256 ^ 8 := Nat.pow_le_pow_right (by decide) (by rw [List.length_take]; omega)
      exact Nat.lt_of_lt_of_le h1 h2
    · rw [if_neg h]; decide
theorem numE_le (l : List Nat) : numE l ≤ 4 := by
  cases l with
  | nil => decide
  | cons x r =>
    rw [numE_cons]
    split
    · split <;> omega
    · omega
theorem numL_bad {l : List Nat} (h : numE l ≠ 0) : numL l = [] ∧ numV l = 0 := by
  cases l with
  | nil => exact ⟨rfl, rfl⟩
  | cons x r =>
    have hn : ¬ (form x r = true ∧ x ≤ r.length) := by
      rintro ⟨a, b⟩
      exact h (by rw [numE_cons, if_pos a, if_pos b])
    rw [numL_cons, numV_cons, if_neg hn, if_neg hn]
    exact ⟨rfl, rfl⟩
theorem byteV_lt {l : List Nat} (hs : Small l) : byteV l < 256 := by
  cases l with
  | nil => decide
  | cons x r => exact hs x List.mem_cons_self
end Go.Proofs.YtmhghgogehmehaaGreat.Nu

/- Words for the claims of layer dot: slices of dots in memory. -/
namespace Go.Proofs.YtmhghgogehmehaaGreat.Dt
open Go.ChangeShapes Go.WideShapes Go.ChangeAt Go.RowKit
set_option linter.unusedVariables false

theorem ret_int {k : IntKind} {a b : Int} (h : a = b) : Ending.returned (.int k a) = .returned (.int k b) := by rw [h]
theorem ret_bool {a b : Bool} (h : a = b) : Ending.returned (.bool a) = .returned (.bool b) := by rw [h]
theorem block_add (a : Addr) (n : Nat) : (a.add n).block = a.block := by unfold Addr.add; split <;> rfl
theorem add_add (a : Addr) (m n : Nat) : (a.add m).add n = a.add (m + n) := by
  unfold Addr.add
  by_cases h1 : m = 0
  · subst h1; simp
  · by_cases h2 : n = 0
    · subst h2; simp
    · have h3 : ¬ m + n = 0 := by omega
      simp [h1, h2, Nat.add_assoc]
theorem zero_add (g j : Nat) : (⟨g, 0, none⟩ : Addr).add j = ⟨g, j, none⟩ := by
  unfold Addr.add; split
  · rename_i hz; rw [hz]
  · simp

/-- a slice of the address A whose cells are these, below block B. -/
def Lies (w : World) (B : Nat) (A : Option Addr) (vs : List Value) : Prop :=
  0 < vs.length → ∃ ad : Addr, A = some ad ∧ ad.block < B ∧ ∀ (j : Nat) (u : Value), vs[j]? = some u → w.cell? (ad.add j) = some u
theorem Lies.below {w w' : World} {B : Nat} {A : Option Addr} {vs : List Value} (h : Lies w B A vs) (hb : Below B w w') : Lies w' B A vs := fun hl => by
  obtain ⟨ad, e, hB, hc⟩ := h hl
  exact ⟨ad, e, hB, fun j u hu => (hb.cell (by rw [block_add]; exact hB)).trans (hc j u hu)⟩
theorem Lies.more {w : World} {B B' : Nat} {A : Option Addr} {vs : List Value} (h : Lies w B A vs) (hB : B ≤ B') : Lies w B' A vs := fun hl => by
  obtain ⟨ad, e, hb, hc⟩ := h hl
  exact ⟨ad, e, by omega, hc⟩
theorem Lies.none_ (w : World) (B : Nat) (A : Option Addr) : Lies w B A [] := fun h => absurd h (by simp)
theorem lies_own {w : World} {B g n cap size : Nat} {e : TypeId} {vs : List Value} (h : w.ownsRow B e size (.slice (some ⟨g, 0, none⟩) n cap) n vs) : Lies w w.heap.size (some ⟨g, 0, none⟩) vs := fun _ => by
  refine ⟨_, rfl, (h.lt g rfl).2, fun j u hj => ?_⟩
  have hjl : j < vs.length := (List.getElem?_eq_some_iff.1 hj).1
  have := h.1
  rw [zero_add, h.cellAt j (by omega), hj]
theorem below_new (w : World) (o : Obj) : Below w.heap.size w (w.alloc o) := (Below.refl _ _).alloc (Nat.le_refl _) o
theorem turn_refl (w : World) (row : Option Nat) : w.grownBy w row := ⟨rfl, rfl, rfl, Nat.le_refl _, fun _ _ _ => rfl⟩
theorem own_shape {w w1 : World} {B n size : Nat} {e : TypeId} {v1 : Value} {xs : List Value} (hown : w1.ownsRow B e size v1 n xs) (hn : 0 < n ∨ ¬ v1 = .slice none 0 0) : ∃ g cap, v1 = .slice (some ⟨g, 0, none⟩) n cap ∧ B ≤ g := by
  rcases hown.2 with ⟨h, hz⟩ | ⟨g, cap, _, e, hg, _⟩
  · rcases hn with hn | hn
    · omega
    · exact absurd h hn
  · exact ⟨g, cap, e, hg⟩

/-- a dot: its device and its number. -/
abbrev Dot := Nat × Nat
def dv (l : List Dot) : List Value := l.flatMap fun r => [.int .u16 (r.1 : Int), .int .u64 (r.2 : Int)]
theorem dv_nil : dv [] = [] := rfl
theorem dv_append (l m : List Dot) : dv (l ++ m) = dv l ++ dv m := by unfold dv; rw [List.flatMap_append]
theorem dv_length (l : List Dot) : (dv l).length = l.length * 2 := by
  induction l with
  | nil => rfl
  | cons r l ih => simp only [dv, List.flatMap_cons, List.length_append, List.length_cons, List.length_nil] at ih ⊢; omega
theorem dv_get {l : List Dot} {k : Nat} {r : Dot} (h : l[k]? = some r) : (dv l)[k * 2]? = some (.int .u16 (r.1 : Int)) ∧ (dv l)[k * 2 + 1]? = some (.int .u64 (r.2 : Int)) := by
  induction l generalizing k with
  | nil => simp at h
  | cons x l ih =>
    cases k with
    | zero => obtain rfl : x = r := by simpa using h
              exact ⟨rfl, rfl⟩
    | succ k =>
      have h2 := ih (k := k) (by simpa using h)
      have e : dv (x :: l) = .int .u16 (x.1 : Int) :: .int .u64 (x.2 : Int) :: dv l := rfl
      have e1 : (k + 1) * 2 = k * 2 + 2 := by omega
      rw [e, e1]
      exact ⟨by simpa using h2.1, by simpa using h2.2⟩
theorem dv_one (l : List Dot) : ∀ u ∈ dv l, u.oneCell' = true := by
  intro u hu
  obtain ⟨r, _, h⟩ := List.mem_flatMap.1 hu
  simp only [List.mem_cons, List.not_mem_nil, or_false] at h
  rcases h with rfl | rfl <;> rfl

def Fit (l : List Dot) : Prop := ∀ r ∈ l, r.1 < 65536 ∧ r.2 < 18446744073709551616
/-- a slice of the address A that holds these dots, below block B. -/
def Dots (w : World) (B : Nat) (A : Option Addr) (l : List Dot) : Prop := Fit l ∧ Lies w B A (dv l)
theorem Dots.below {w w' : World} {B : Nat} {A : Option Addr} {l : List Dot} (h : Dots w B A l) (hb : Below B w w') : Dots w' B A l := ⟨h.1, h.2.below hb⟩
theorem Dots.more {w : World} {B B' : Nat} {A : Option Addr} {l : List Dot} (h : Dots w B A l) (hB : B ≤ B') : Dots w B' A l := ⟨h.1, h.2.more hB⟩
theorem Dots.up {w W : World} {A : Option Addr} {l : List Dot} (h : Dots w w.heap.size A l) (hb : Below w.heap.size w W) : Dots W W.heap.size A l := (h.below hb).more hb.size
theorem Dots.none_ (w : World) (B : Nat) (A : Option Addr) : Dots w B A [] := ⟨fun r hr => (by cases hr), Lies.none_ _ _ _⟩
theorem Dots.at_ {w : World} {B : Nat} {A : Option Addr} {l : List Dot} (h : Dots w B A l) {k : Nat} (hk : k < l.length) :
    ∃ (ad : Addr) (lo hi : Nat), A = some ad ∧ l[k]? = some (lo, hi) ∧ lo < 65536 ∧ hi < 18446744073709551616 ∧ w.cell? (ad.add (k * 2)) = some (.int .u16 (lo : Int)) ∧ w.cell? (ad.add (k * 2 + 1)) = some (.int .u64 (hi : Int)) := by
  obtain ⟨ad, e, _, hc⟩ := h.2 (by rw [dv_length]; omega)
  have hg := List.getElem?_eq_getElem hk
  obtain ⟨h1, h2⟩ := h.1 l[k] (List.getElem_mem hk)
  obtain ⟨g1, g2⟩ := dv_get hg
  exact ⟨ad, l[k].1, l[k].2, e, hg, h1, h2, hc _ _ g1, hc _ _ g2⟩

/-- where a place within memory stands, as the walk reckons it. -/
theorem add_lit (a : Addr) (n : Nat) (h : a.spot = none) : a.add n = ⟨a.block, a.off + n, none⟩ := by
  unfold Addr.add
  split
  · rename_i hz; subst hz; cases a; simp_all
  · rfl

theorem dot_info : (Tryz.prog.info? 25).map (fun i => (i.zero, i.size, i.bytes)) = some (some (.agg #[.int .u16 0, .int .u64 0]), 2, 16) := by kernel_rfl
theorem add_next (ad : Addr) (m : Nat) : (⟨(ad.add m).block, (ad.add m).off + 1, none⟩ : Addr) = ad.add (m + 1) := by
  unfold Addr.add
  by_cases h : m = 0
  · subst h; simp
  · simp [h, Nat.add_assoc]
end Go.Proofs.YtmhghgogehmehaaGreat.Dt

/- The contracts of the document's answers for layer dot on single dots: Good, Cmp, Pack, Split, Unpack. For every dot and number of their types. -/
namespace Go.Proofs.YtmhghgogehmehaaGreat.Dt
open Go.ChangeShapes Go.WideShapes Go.ChangeAt Go.RowKit
set_option linter.unusedVariables false

theorem below_new3 (w : World) (o1 o2 o3 : Obj) : Below w.heap.size w (((w.alloc o1).alloc o2).alloc o3) := by
  have h1 := below_new w o1
  have h2 := h1.alloc (Nat.le_trans (Nat.le_refl _) h1.size) o2
  exact h2.alloc h2.size o3
/-- may a dot be? -/
def mayD (d : Dot) : Bool := decide (1 ≤ d.1 ∧ 1 ≤ d.2 ∧ d.2 < 281474976710656)
theorem may_iff (d : Dot) : mayD d = true ↔ 1 ≤ d.1 ∧ 1 ≤ d.2 ∧ d.2 < 281474976710656 := decide_eq_true_iff
theorem rgood_any (w : World) (a n : Nat) :
    Calls Tryz.prog 30 #[.agg #[.int .u16 (a : Int), .int .u64 (n : Int)]] w fun e w' => e = .returned (.bool (mayD (a, n))) ∧ w' = w.alloc (.cells #[.int .u16 (a : Int), .int .u64 (n : Int)] 25) := by
  by_cases c1 : 1 ≤ a
  · have d1 : decide ((1 : Int) ≤ (a : Int)) = true := decide_eq_true (by omega)
    by_cases c2 : 1 ≤ n
    · have d2 : decide ((1 : Int) ≤ (n : Int)) = true := decide_eq_true (by omega)
      have hd : mayD (a, n) = decide ((n : Int) < 281474976710656) := decide_eq_decide.2 ⟨fun h => by have := h.2.2; simp at this; omega, fun h => ⟨c1, c2, by simp; omega⟩⟩
      rw [hd]
      clear hd
      go_enter Tryz.func30, Tryz.ntmps30
      go_wp2
      go_ret
      exact ⟨rfl, rfl⟩
    · have hd : mayD (a, n) = false := decide_eq_false (fun h => c2 h.2.1)
      have d2 : decide ((1 : Int) ≤ (n : Int)) = false := decide_eq_false (by omega)
      rw [hd]
      clear hd
      go_enter Tryz.func30, Tryz.ntmps30
      go_wp2
      go_ret
      exact ⟨rfl, rfl⟩
  · have hd : mayD (a, n) = false := decide_eq_false (fun h => c1 h.1)
    have d1 : decide ((1 : Int) ≤ (a : Int)) = false := decide_eq_false (by omega)
    rw [hd]
    clear hd
    go_enter Tryz.func30, Tryz.ntmps30
    go_wp2
    go_ret
    exact ⟨rfl, rfl⟩

/-- which dot stands ahead? -/
def aheadD (a b : Dot) : Bool := decide (a.1 < b.1 ∨ (a.1 = b.1 ∧ a.2 < b.2))
def cmpD (a b : Dot) : Int := if a = b then 0 else if aheadD a b = true then -1 else 1
theorem cmp_same (a : Dot) : cmpD a a = 0 := if_pos rfl
theorem cmp_less {a b : Dot} (h : aheadD a b = true) : cmpD a b = -1 := by
  unfold cmpD
  rw [if_neg, if_pos h]
  rintro rfl
  have := of_decide_eq_true h
  omega
theorem cmp_more {a b : Dot} (h : aheadD b a = true) : cmpD a b = 1 := by
  have h2 := of_decide_eq_true h
  unfold cmpD
  rw [if_neg, if_neg]
  · intro h3
    have := of_decide_eq_true h3
    omega
  · rintro rfl
    omega
theorem rcmp_any (w : World) (a b : Dot) :
    Calls Tryz.prog 51 #[.agg #[.int .u16 (a.1 : Int), .int .u64 (a.2 : Int)], .agg #[.int .u16 (b.1 : Int), .int .u64 (b.2 : Int)]] w fun e w' => e = .returned (.int .i64 (cmpD a b)) ∧ Below w.heap.size w w' := by
  obtain ⟨a1, a2⟩ := a
  obtain ⟨b1, b2⟩ := b
  have HB : Hid (Below w.heap.size w ((w.alloc (.cells #[.int .u16 (a1 : Int), .int .u64 (a2 : Int)] 25)).alloc (.cells #[.int .u16 (b1 : Int), .int .u64 (b2 : Int)] 25))) := (below_new w _).trans ((below_new _ _).mono (below_new w _).size)
  by_cases h1 : a1 = b1
  · subst h1
    by_cases h2 : a2 = b2
    · subst h2
      rw [cmp_same]
      go_enter Tryz.func51, Tryz.ntmps51
      go_wp2
      go_ret
      exact ⟨rfl, HB.out⟩
    · have e2 : ((a2 : Int) == (b2 : Int)) = false := by rw [beq_eq_false_iff_ne]; omega
      by_cases h3 : a2 < b2
      · have d3 : decide ((a2 : Int) < (b2 : Int)) = true := decide_eq_true (by omega)
        rw [cmp_less (a := (a1, a2)) (b := (a1, b2)) (decide_eq_true (.inr ⟨rfl, h3⟩))]
        go_enter Tryz.func51, Tryz.ntmps51
        go_wp2
        go_ret
        exact ⟨rfl, HB.out⟩
      · have d3 : decide ((a2 : Int) < (b2 : Int)) = false := decide_eq_false (by omega)
        rw [cmp_more (a := (a1, a2)) (b := (a1, b2)) (decide_eq_true (.inr ⟨rfl, by show b2 < a2; omega⟩))]
        go_enter Tryz.func51, Tryz.ntmps51
        go_wp2
        go_ret
        exact ⟨rfl, HB.out⟩
  · have e1 : ((a1 : Int) == (b1 : Int)) = false := by rw [beq_eq_false_iff_ne]; omega
    by_cases h3 : a1 < b1
    · have d3 : decide ((a1 : Int) < (b1 : Int)) = true := decide_eq_true (by omega)
      rw [cmp_less (a := (a1, a2)) (b := (b1, b2)) (decide_eq_true (.inl h3))]
      go_enter Tryz.func51, Tryz.ntmps51
      go_wp2
      go_ret
      exact ⟨rfl, HB.out⟩
    · have d3 : decide ((a1 : Int) < (b1 : Int)) = false := decide_eq_false (by omega)
      rw [cmp_more (a := (a1, a2)) (b := (b1, b2)) (decide_eq_true (.inl (by show b1 < a1; omega)))]
      go_enter Tryz.func51, Tryz.ntmps51
      go_wp2
      go_ret
      exact ⟨rfl, HB.out⟩

/-- the dot of a number. -/
def splitD (v : Nat) : Dot := (v / 281474976710656, v % 281474976710656)
def unpackD (v : Nat) : Dot × Bool := if mayD (splitD v) = true then (splitD v, true) else ((0, 0), false)
end Go.Proofs.YtmhghgogehmehaaGreat.Dt

/- The contracts of the document's answers for layer dot that tell of lists: Same, Has, Rising. For every list. -/
namespace Go.Proofs.YtmhghgogehmehaaGreat.Dt
open Go.ChangeShapes Go.WideShapes Go.ChangeAt Go.RowKit
set_option linter.unusedVariables false

theorem bel_drewN {B : Nat} {w W : World} (h : Below B w W) (m : Nat) : Below B w (W.drewN m) := h.trans ⟨rfl, rfl, rfl, Nat.le_refl _, fun _ _ => rfl⟩
theorem take_more {l m : List Dot} {k : Nat} {x : Dot} (h : l.take k = m.take k) (h1 : l[k]? = some x) (h2 : m[k]? = some x) : l.take (k + 1) = m.take (k + 1) := by
  rw [List.take_add_one, List.take_add_one, h, h1, h2]
theorem ne_at {l m : List Dot} {k : Nat} {x y : Dot} (h1 : l[k]? = some x) (h2 : m[k]? = some y) (hn : x ≠ y) : l ≠ m := by
  intro e
  rw [e, h2] at h1
  exact hn (Option.some.inj h1).symm
theorem rsame_any (w : World) (B1 B2 : Nat) (A1 A2 : Option Addr) (l1 l2 : List Dot) (n1 n2 c1 c2 : Nat) (e1 : l1.length = n1) (e2 : l2.length = n2) (h1 : Dots w B1 A1 l1) (h2 : Dots w B2 A2 l2) (h63 : n1 ≤ 9223372036854775807) :
    Calls Tryz.prog 20 #[.slice A1 n1 c1, .slice A2 n2 c2] w fun e w' => e = .returned (.bool (decide (l1 = l2))) ∧ ∃ m, w' = w.drewN m := by
  have H1 := Lib.hid h1
  have H2 := Lib.hid h2
  have E1 := Lib.hid e1
  have E2 := Lib.hid e2
  clear h1 h2 e1 e2
  by_cases hn : n1 = n2
  · subst hn
    go_enter Tryz.func20, Tryz.ntmps20
    go_wp2
    go_loopw [5] (fun i wr => ∃ k : Nat, k ≤ n1 ∧ i = .int .i64 (k : Int) ∧ l1.take k = l2.take k ∧ ∃ m, wr = w.drewN m) (fun i _ => n1 - (intOf i).toNat)
    case atStart => exact ⟨0, Nat.zero_le _, rfl, by simp, 0, rfl⟩
    case round =>
      obtain ⟨k, hk, rfl, ht, m, rfl⟩ := hrel
      have HT := Lib.hid ht
      clear ht
      by_cases hlt : k < n1
      · obtain ⟨a1, x1, x2, rfl, hlx, hx1, hx2, hc1, hc2⟩ := H1.out.at_ (k := k) (by rw [E1.out]; exact hlt)
        obtain ⟨a2, y1, y2, rfl, hly, hy1, hy2, hd1, hd2⟩ := H2.out.at_ (k := k) (by rw [E2.out]; exact hlt)
        have hc3 : w.cell? ⟨(a1.add (k * 2)).block, (a1.add (k * 2)).off + 1, none⟩ = some (.int .u64 (x2 : Int)) := by rw [add_next]; exact hc2
        have hd3 : w.cell? ⟨(a2.add (k * 2)).block, (a2.add (k * 2)).off + 1, none⟩ = some (.int .u64 (y2 : Int)) := by rw [add_next]; exact hd2
        have LX := Lib.hid hlx
        have LY := Lib.hid hly
        clear hlx hly hc2 hd2
        by_cases hxy : x1 = y1 ∧ x2 = y2
        · obtain ⟨rfl, rfl⟩ := hxy
          have hs := Lib.hid (take_more HT.out LX.out LY.out)
          go_wp2_with fail
          go_quiet (fail)
          go_wp2
          go_roundw
          case rel => exact ⟨k + 1, by omega, by go_num, hs.out, _, rfl⟩
          case measure => simp [intOf]; omega
        · have hd : Hid (decide (l1 = l2) = false) := decide_eq_false (ne_at LX.out LY.out (fun e => hxy (by cases e; exact ⟨rfl, rfl⟩)))
          by_cases hx : x1 = y1
          · subst hx
            have hx2' : ¬ x2 = y2 := fun e => hxy ⟨rfl, e⟩
            have hb2 : ((x2 : Int) == (y2 : Int)) = false := by rw [beq_eq_false_iff_ne]; omega
            clear hxy
            go_wp2_with fail
            go_quiet (fail)
            go_wp2
            go_ret
            exact ⟨ret_bool hd.out.symm, _, World.drewN_drewN ..⟩
          · have hb2 : ((x1 : Int) == (y1 : Int)) = false := by rw [beq_eq_false_iff_ne]; omega
            clear hxy
            go_wp2_with fail
            go_quiet (fail)
            go_wp2
            go_ret
            exact ⟨ret_bool hd.out.symm, _, World.drewN_drewN ..⟩
      · obtain rfl : k = n1 := by omega
        have hd : Hid (l1 = l2) := by
          have h := HT.out
          rw [List.take_of_length_le (by rw [E1.out]; exact Nat.le_refl _), List.take_of_length_le (by rw [E2.out]; exact Nat.le_refl _)] at h
          exact h
        go_wp2
        go_ret
        exact ⟨ret_bool (by rw [decide_eq_true hd.out]), m, rfl⟩
  · have hd : Hid (decide (l1 = l2) = false) := decide_eq_false (fun e => hn (by rw [← E1.out, ← E2.out, e]))
    have hne : ((n1 : Int) != (n2 : Int)) = true := by rw [bne_iff_ne]; omega
    go_enter Tryz.func20, Tryz.ntmps20
    go_wp2
    go_ret
    exact ⟨ret_bool hd.out.symm, 0, rfl⟩

theorem take_next {l : List Dot} {k : Nat} {x : Dot} (h1 : l[k]? = some x) : l.take (k + 1) = l.take k ++ [x] := by
  rw [List.take_add_one, h1]; rfl
end Go.Proofs.YtmhghgogehmehaaGreat.Dt

/- The contracts of the document's answers for layer dot on texts: Decimal, Text. For every number and dot of their types. -/
namespace Go.Proofs.YtmhghgogehmehaaGreat.Dt
open Go.ChangeShapes Go.WideShapes Go.ChangeAt Go.RowKit
set_option linter.unusedVariables false

/-- a number's digits. -/
def digB (v : Nat) : UInt8 := UInt8.ofNat (48 + v % 10)
def decB (v : Nat) : List UInt8 := if h : v < 10 then [digB v] else decB (v / 10) ++ [digB v]
termination_by v
decreasing_by omega
theorem decB_small {v : Nat} (h : v < 10) : decB v = [digB v] := by rw [decB, dif_pos h]
theorem decB_more {v : Nat} (h : ¬ v < 10) : decB v = decB (v / 10) ++ [digB v] := by rw [decB, dif_neg h]
theorem decB_long (v k : Nat) (h : v < 10 ^ (k + 1)) : (decB v).length ≤ k + 1 := by
  induction k generalizing v with
  | zero => rw [decB_small (by simpa using h)]; simp
  | succ k ih =>
    by_cases h1 : v < 10
    · rw [decB_small h1]; simp
    · rw [decB_more h1, List.length_append]
      have := ih (v / 10) (by rw [Nat.pow_succ] at h; omega)
      simp; omega
def decA (v : Nat) : ByteArray := ⟨(decB v).toArray⟩
theorem decA_long {v : Nat} (h : v < 18446744073709551616) : (decA v).size ≤ 20 := by
  have := decB_long v 19 (by omega)
  simpa [decA, ByteArray.size] using this

theorem bel_drew {w W : World} (h : Below w.heap.size w W) : Below w.heap.size w W.drew := h.drew
/-- a dot's text. -/
def textA (d : Dot) : ByteArray := decA d.1 ++ ⟨#[46]⟩ ++ decA d.2
end Go.Proofs.YtmhghgogehmehaaGreat.Dt

/- The contract of the document's Rising of layer dot. For every list. -/
namespace Go.Proofs.YtmhghgogehmehaaGreat.Dt
open Go.ChangeShapes Go.WideShapes Go.ChangeAt Go.RowKit
set_option linter.unusedVariables false

theorem rcmp_later (w W : World) (a b : Dot) (hW : Below w.heap.size w W) :
    Calls Tryz.prog 51 #[.agg #[.int .u16 (a.1 : Int), .int .u64 (a.2 : Int)], .agg #[.int .u16 (b.1 : Int), .int .u64 (b.2 : Int)]] W fun e V => e = .returned (.int .i64 (cmpD a b)) ∧ Below w.heap.size w V :=
  (rcmp_any W a b).mono fun _ _ ⟨h1, h2⟩ => ⟨h1, hW.trans (h2.mono hW.size)⟩
/-- does each one stand ahead of the next one? -/
def riseB : List Dot → Bool
  | a :: b :: l => aheadD a b && riseB (b :: l)
  | _ => true
theorem riseB_snoc (l : List Dot) (x y : Dot) : riseB (l ++ [x] ++ [y]) = (riseB (l ++ [x]) && aheadD x y) := by
  induction l with
  | nil => simp [riseB]
  | cons a l ih =>
    cases l with
    | nil => simp [riseB]
    | cons b l =>
      simp only [List.cons_append, riseB] at ih ⊢
      rw [ih, Bool.and_assoc]
theorem riseB_part (l m : List Dot) (h : riseB (l ++ m) = true) : riseB l = true := by
  induction l with
  | nil => rfl
  | cons a l ih =>
    cases l with
    | nil => rfl
    | cons b l =>
      simp only [List.cons_append, riseB, Bool.and_eq_true] at ih h ⊢
      exact ⟨h.1, ih h.2⟩
theorem riseB_two {l : List Dot} {j : Nat} {x y : Dot} (hx : l[j]? = some x) (hy : l[j + 1]? = some y) : riseB (l.take (j + 2)) = (riseB (l.take (j + 1)) && aheadD x y) := by
  rw [take_next hy, take_next hx, riseB_snoc]
theorem cmp_sign (a b : Dot) : aheadD a b = false → 0 ≤ cmpD a b := by
  intro h
  unfold cmpD
  split
  · omega
  · rw [h]; simp
theorem Dots.cells {w : World} {B : Nat} {A : Option Addr} {l : List Dot} (h : Dots w B A l) {k : Nat} (hk : k < l.length) :
    ∃ (ad : Addr) (x : Dot), A = some ad ∧ ad.block < B ∧ l[k]? = some x ∧ x.1 < 65536 ∧ x.2 < 18446744073709551616 ∧ ∀ V, Below B w V → V.cell? (ad.add (k * 2)) = some (.int .u16 (x.1 : Int)) ∧ V.cell? ⟨(ad.add (k * 2)).block, (ad.add (k * 2)).off + 1, none⟩ = some (.int .u64 (x.2 : Int)) := by
  obtain ⟨ad, e, hB, _⟩ := h.2 (by rw [dv_length]; omega)
  obtain ⟨ad', lo, hi, e', hl, h1, h2, hc1, hc2⟩ := h.at_ hk
  obtain rfl : ad = ad' := by rw [e] at e'; exact Option.some.inj e'
  refine ⟨ad, (lo, hi), e, hB, hl, h1, h2, fun V hV => ⟨(hV.cell (by rw [block_add]; exact hB)).trans hc1, ?_⟩⟩
  rw [add_next]
  exact (hV.cell (by rw [block_add]; exact hB)).trans hc2

set_option maxHeartbeats 4000000 in
theorem rrising_any (w : World) (A : Option Addr) (l : List Dot) (n c : Nat) (e1 : l.length = n) (h1 : Dots w w.heap.size A l) (h63 : n ≤ 9223372036854775806) :
    Calls Tryz.prog 31 #[.slice A n c] w fun e w' => e = .returned (.bool (riseB l)) ∧ Below w.heap.size w w' := by
  have H1 := Lib.hid h1
  have E1 := Lib.hid e1
  clear h1 e1
  go_enter Tryz.func31, Tryz.ntmps31
  go_wp2
  go_loopw [3] (fun i wr => ∃ j : Nat, i = .int .i64 ((j : Int) + 1) ∧ j ≤ n ∧ riseB (l.take (j + 1)) = true ∧ Below w.heap.size w wr) (fun i _ => n + 1 - (intOf i).toNat)
  case atStart => exact ⟨0, rfl, Nat.zero_le _, by cases l <;> rfl, Below.refl _ _⟩
  case round =>
    obtain ⟨j, rfl, hj, ht, hw⟩ := hrel
    have HT := Lib.hid ht
    have HW := Lib.hid hw
    clear ht hw
    by_cases hlt : j + 1 < n
    · obtain ⟨ad, x, rfl, hB, hlx, hx1, hx2, hcx⟩ := H1.out.cells (k := j) (by rw [E1.out]; omega)
      obtain ⟨ad', y, e', _, hly, hy1, hy2, hcy⟩ := H1.out.cells (k := j + 1) (by rw [E1.out]; omega)
      obtain rfl : ad = ad' := Option.some.inj e'
      have R2 := riseB_two hlx hly
      rw [HT.out, Bool.true_and] at R2
      have RR := Lib.hid R2
      clear e' R2 hlx hly
      have HC : Hid (∀ V, Below wr.heap.size wr V → (V.cell? (ad.add (j * 2)) = some (.int .u16 (x.1 : Int)) ∧ V.cell? ⟨(ad.add (j * 2)).block, (ad.add (j * 2)).off + 1, none⟩ = some (.int .u64 (x.2 : Int))) ∧ V.cell? (ad.add ((j + 1) * 2)) = some (.int .u16 (y.1 : Int)) ∧ V.cell? ⟨(ad.add ((j + 1) * 2)).block, (ad.add ((j + 1) * 2)).off + 1, none⟩ = some (.int .u64 (y.2 : Int))) := fun V hV =>
        ⟨hcx V (HW.out.trans (hV.mono HW.out.size)), hcy V (HW.out.trans (hV.mono HW.out.size))⟩
      clear hcx hcy
      obtain ⟨⟨d1, d2⟩, d3, d4⟩ := HC.out wr (Below.refl _ _)
      have s1 : IntKind.i64.wrap ((j : Int) + 1 - 1) = (j : Int) := by rw [IntWalk.i64_in _ (by omega)]; omega
      have s0 : IntKind.i64.wrap (j : Int) = (j : Int) := IntWalk.i64_in _ (by omega)
      have s2 : (0 : Int) ≤ (j : Int) + 1 := by omega
      have s3 : (0 : Int) ≤ (j : Int) := by omega
      have s4 : ((j : Int) + 1).toNat = j + 1 := by omega
      have s5 : (j : Int) < (n : Int) := by omega
      have s6 : (j : Int) + 1 < (n : Int) := by omega
      go_wp2_with fail
      go_region_held3 (fun V => (V.cell? (ad.add (j * 2)) = some (.int .u16 (x.1 : Int)) ∧ V.cell? ⟨(ad.add (j * 2)).block, (ad.add (j * 2)).off + 1, none⟩ = some (.int .u64 (x.2 : Int))) ∧ V.cell? (ad.add ((j + 1) * 2)) = some (.int .u16 (y.1 : Int)) ∧ V.cell? ⟨(ad.add ((j + 1) * 2)).block, (ad.add ((j + 1) * 2)).off + 1, none⟩ = some (.int .u64 (y.2 : Int))) (first | exact ⟨⟨d1, d2⟩, d3, d4⟩ | assumption | exact HC.out _ (by (repeat (first | exact Below.refl _ _ | assumption | apply bel_drew)))) (first
        | (go_at_call 51; (with_reducible refine (rcmp_later wr _ x y ?_).mono ?_); (repeat (first | exact Below.refl _ _ | assumption | apply bel_drew)); rintro e V ⟨rfl, bv⟩; have hcV := HC.out V bv))
      all_goals
        have HV : Hid (Below w.heap.size w V) := HW.out.trans (bv.mono HW.out.size)
        clear hcV bv d1 d2 d3 d4 s1 s0
        cases ha : aheadD x y with
        | true =>
          have hz : decide (0 ≤ cmpD x y) = false := decide_eq_false (by rw [cmp_less ha]; omega)
          rw [ha] at RR
          rw [hz]
          clear hz ha s2 s3 s4 s5 s6
          go_wp2
          go_roundw
          case rel => exact ⟨j + 1, by go_num, by omega, RR.out, HV.out⟩
          case measure => simp [intOf]; omega
        | false =>
          have hz : decide (0 ≤ cmpD x y) = true := decide_eq_true (cmp_sign x y ha)
          rw [ha] at RR
          rw [hz]
          have hf : Hid (riseB l = false) := Lib.hid (by
            cases hr : riseB l with
            | false => rfl
            | true =>
              have := riseB_part (l.take (j + 2)) (l.drop (j + 2)) (by rw [List.take_append_drop]; exact hr)
              rw [RR.out] at this
              exact absurd this (by simp))
          clear hz ha s2 s3 s4 s5 s6
          go_wp2
          go_ret
          exact ⟨ret_bool hf.out.symm, HV.out⟩
    · have hf : Hid (riseB l = true) := Lib.hid (by
        have := HT.out
        rw [List.take_of_length_le (by rw [E1.out]; omega)] at this
        exact this)
      go_wp2
      go_ret
      exact ⟨ret_bool hf.out.symm, HW.out⟩
end Go.Proofs.YtmhghgogehmehaaGreat.Dt
