/- The contracts of num's Append and of the document's: a new list of the bytes that came in and the number's bytes behind them; nothing that was there has changed. Condition: at most 2^47 - 4096 bytes came in. -/
import Derived.Test.YtpleafcjacbkkaaBytes
import Derived.Laws.CopyOwn
import Derived.Laws.AppendOwnNone
import Derived.Maps.AppendAt
namespace Go.Proofs.Ytpleafcjacbkkaa.Nu
open Go.ChangeShapes Go.WideShapes Go.ChangeAt Go.RowKit
set_option linter.unusedVariables false

theorem byte_info : (Try.prog.info? 5).map (fun i => (i.zero, i.size, i.bytes)) = some (some (.int .u8 0), 1, 1) := by kernel_rfl
theorem byte_size : (Try.prog.info? 5).map (·.size) = some 1 := by kernel_rfl

/-- a call that answers a new list of these bytes. -/
def AppPost (w : World) (m : List Nat) (e : Ending) (w' : World) : Prop :=
  ∃ g cap n, e = .returned (.slice (some ⟨g, 0, none⟩) n cap) ∧ m.length = n ∧ w.heap.size ≤ g ∧ w'.ownsRow w.heap.size 5 1 (.slice (some ⟨g, 0, none⟩) n cap) n (vals m) ∧ Below w.heap.size w w'

/-- what holds at each round's head. -/
def Rel (w : World) (l : List Nat) (v : Nat) (s i : Value) (wr : World) : Prop :=
  ∃ (k : Nat) (D : List Nat) (g cap n : Nat), k + D.length = blen v ∧ D ++ dig k v = dig (blen v) v ∧ i = .int .i64 ((k : Int) - 1) ∧ s = .slice (some ⟨g, 0, none⟩) n cap ∧ n = l.length + 1 + D.length ∧
    wr.ownsRow w.heap.size 5 1 (.slice (some ⟨g, 0, none⟩) n cap) n (vals (l ++ blen v :: D)) ∧ Below w.heap.size w wr

/-- what a step of the list leaves. -/
theorem own_shape {w w1 : World} {B n : Nat} {v1 : Value} {xs : List Value} (hown : w1.ownsRow B 5 1 v1 n xs) (hn : 0 < n ∨ ¬ v1 = .slice none 0 0) : ∃ g cap, v1 = .slice (some ⟨g, 0, none⟩) n cap ∧ B ≤ g := by
  rcases hown.2 with ⟨h, hz⟩ | ⟨g, cap, _, e, hg, _⟩
  · rcases hn with hn | hn
    · omega
    · exact absurd h hn
  · exact ⟨g, cap, e, hg⟩

theorem cell_one (w : World) (x : Value) (t : TypeId) : ∀ (j : Nat) (u : Value), [x][j]? = some u → (w.alloc (.cells #[x] t)).cell? ((⟨w.heap.size, 0, none⟩ : Addr).add j) = some u := by
  intro j u hu
  cases j with
  | zero =>
    rw [zero_add, World.cell?_alloc_new]
    simpa using hu
  | succ j => simp at hu

theorem rel_start {w w1 : World} {l : List Nat} {v g cap n : Nat} (hn : n = l.length + 1) (h : w1.ownsRow w.heap.size 5 1 (.slice (some ⟨g, 0, none⟩) n cap) n (vals (l ++ [blen v]))) (hb : Below w.heap.size w w1) :
    Rel w l v (.slice (some ⟨g, 0, none⟩) n cap) (.int .i64 ((blen v : Int) - 1)) w1 :=
  ⟨blen v, [], g, cap, n, by simp, by simp, rfl, rfl, by simpa using hn, h, hb⟩
theorem rel_end {w wr : World} {l : List Nat} {v g cap n : Nat} {D : List Nat} (h1 : 0 + D.length = blen v) (h2 : D ++ dig 0 v = dig (blen v) v) (hn : n = l.length + 1 + D.length)
    (h : wr.ownsRow w.heap.size 5 1 (.slice (some ⟨g, 0, none⟩) n cap) n (vals (l ++ blen v :: D))) (hb : Below w.heap.size w wr) :
    AppPost w (l ++ enc v) (.returned (.slice (some ⟨g, 0, none⟩) n cap)) wr := by
  have e : D = dig (blen v) v := by rw [← h2]; simp [dig]
  refine ⟨g, cap, n, rfl, ?_, (h.lt g rfl).1, ?_, hb⟩
  · rw [List.length_append, enc_length]; omega
  · unfold enc; rw [← e]; exact h
theorem rel_step {w wr : World} {l : List Nat} {v g cap n j b : Nat} {D : List Nat} (h1 : j + 1 + D.length = blen v) (h2 : D ++ dig (j + 1) v = dig (blen v) v) (hb1 : b = v / 256 ^ j % 256) (hn : n = l.length + 1 + D.length + 1)
    (h : wr.ownsRow w.heap.size 5 1 (.slice (some ⟨g, 0, none⟩) n cap) n (vals (l ++ blen v :: D) ++ vals [b])) (hb : Below w.heap.size w wr) :
    Rel w l v (.slice (some ⟨g, 0, none⟩) n cap) (.int .i64 ((j : Int) - 1)) wr := by
  refine ⟨j, D ++ [b], g, cap, n, by simp; omega, ?_, rfl, rfl, by simp; omega, ?_, hb⟩
  · rw [← h2, hb1]; simp [dig]
  · rw [← vals_append] at h
    simpa using h

/-- the bytes copied into a new row with room behind them. -/
theorem copied (w : World) (A : Option Addr) (l : List Nat) (n c cap : Nat) (hn : l.length = n) (hcap : n ≤ cap) (hm : cap ≤ maxLen) (hb : Bytes w w.heap.size A l) :
    ∃ w2, (Builtin.copy_ #[22, 22] 3 #[.slice (some ⟨w.heap.size, 0, none⟩) n cap, .slice A n c]).run Try.prog (w.alloc (.cells (madeCells #[.int .u8 0] cap) 5)) = .ok (.int .i64 (n : Int)) w2 ∧
      w2.ownsRow w.heap.size 5 1 (.slice (some ⟨w.heap.size, 0, none⟩) n cap) n (vals l) ∧ Below w.heap.size w w2 := by
  have hg : (w.alloc (.cells (madeCells #[.int .u8 0] cap) 5)).heap[w.heap.size]? = some (.cells (madeCells #[.int .u8 0] cap) 5 (0, 0)) := heap_alloc_new w _
  by_cases h0 : n = 0
  · subst h0
    obtain rfl := List.eq_nil_of_length_eq_zero hn
    refine ⟨_, run_copy_none (P := Try.prog) _ 22 22 3 5 _ _ _ _ _ _ Try.underlying22 byte_size rfl, ⟨rfl, .inr ⟨_, cap, _, rfl, Nat.le_refl _, hg, Nat.zero_le _, hm, by simp [madeCells], by simp [vals]⟩⟩, below_new w _⟩
  · obtain ⟨ad, rfl, hadb, hc⟩ := hb.2 (by omega)
    have hr := run_copy_row (P := Try.prog) (w.alloc (.cells (madeCells #[.int .u8 0] cap) 5)) 22 22 3 5 w.heap.size 0 n cap ad n c (madeCells #[.int .u8 0] cap) 5 (vals l) Try.underlying22 byte_size hg (by rw [vals_length, hn]; exact (Nat.min_self n).symm)
      (fun j u hu => by
        rw [vals_get] at hu
        obtain ⟨x, hx, rfl⟩ := Option.map_eq_some_iff.1 hu
        exact (World.cell?_alloc_lt _ _ _ (by rw [block_add]; exact hadb)).trans (hc j x hx))
      (by rw [vals_length, size_madeCells]; omega) (vals_one l)
    rw [vals_length, hn] at hr
    refine ⟨_, hr, ⟨by rw [vals_length]; omega, .inr ⟨_, cap, _, rfl, Nat.le_refl _, setRow_heap _ _ _ _ 5 _ hg, hcap, hm, ?_, ?_⟩⟩, below_setRow (below_new w _) (Nat.le_refl _) _⟩
    · simp [size_madeCells, vals_length]; omega
    · simp only [List.take_zero, List.nil_append, Nat.mul_one]
      rw [← hn, ← vals_length l]
      exact List.take_left

set_option maxHeartbeats 1600000 in
theorem append_any (w : World) (A : Option Addr) (l : List Nat) (n c v : Nat) (hn : l.length = n) (hb : Bytes w w.heap.size A l) (hl : n ≤ 140737488351232) (hv : v < 18446744073709551616) :
    Calls Try.prog 40 #[.slice A n c, .int .u64 (v : Int)] w (AppPost w (l ++ enc v)) := by
  obtain ⟨i0, hi0, hz0, hz1, hz2⟩ := info_parts byte_info
  have hB := Lib.hid hb
  have HN := Lib.hid hn
  clear hb hn
  have hbl := blen_le v
  obtain ⟨B, hBe⟩ : ∃ B, blen v = B := ⟨_, rfl⟩
  have HBe := Lib.hid hBe
  rw [hBe] at hbl
  clear hBe
  go_enter Try.func40, Try.ntmps40
  go_wp2_with fail
  refine (Sh.size_c v _ hv).mono ?_
  rintro e w' ⟨rfl, rfl⟩
  rw [HBe.out]
  have hmk := run_make (P := Try.prog) w 22 5 i0 (.int .u8 0) Try.underlying22 hi0 hz0 .i64 .i64 (n : Int) ((n : Int) + (1 + (B : Int))) (by omega) (by omega) (by rw [hz2]; omega) (by omega)
  have hmx : n + (1 + B) ≤ maxLen := by simp only [maxLen]; omega
  obtain ⟨w2, hcp, hown, hbel⟩ := copied w A l n c (n + (1 + B)) HN.out (by omega) hmx hB.out
  have HO := Lib.hid hown
  have HB := Lib.hid hbel
  clear hown hbel hmx
  go_wp2_with fail
  clear hmk hcp
  refine (Sh.len_c v _ hv).mono ?_
  rintro e w' ⟨rfl, rfl⟩
  rw [HBe.out]
  go_wp2_with (
    (at_builtin
     refine wpList_append_own _ rfl (.tmp 21) (.tmp 24) 22 rfl w.heap.size 5 i0 (.int .u8 0) 1 1 Try.underlying22 hi0 hz0 hz1 hz2 rfl (by decide) (.slice (some ⟨w.heap.size, 0, none⟩) n (n + (1 + B))) n (vals l) rfl (HO.out.alloc _) ⟨w2.heap.size, 0, none⟩ 1 1 (vals [B]) rfl rfl (cell_one w2 _ 5) (vals_one _) (by simp only [maxLen]; omega) (by omega) (Nat.le_trans HB.out.size (by simp)) ?_
     intro v1 w3 hown1 hg1 hat1))
  obtain ⟨g, cap, rfl, hgw⟩ := own_shape (w := w) hown1 (.inl (by omega))
  have hbel3 : Below w.heap.size w w3 := (HB.out.alloc HB.out.size _).grown hg1 (Nat.le_trans HB.out.size (by simp)) (fun k hk => by simp [Value.ownBlock] at hk; omega)
  have HR : Hid (Rel w l v (.slice (some ⟨g, 0, none⟩) (n + 1) cap) (.int .i64 ((B : Int) - 1)) w3) := by
    have := rel_start (w := w) (l := l) (v := v) (by rw [HN.out]) (by rw [HBe.out, vals_append]; exact hown1) hbel3
    rw [HBe.out] at this
    exact this
  clear hown1 hg1 hat1 hbel3 HO HB
  go_loopw [5, 7] (fun s i wr => Rel w l v s i wr) (fun _ i _ => (intOf i + 1).toNat)
  case atStart => exact HR.out
  case round =>
    clear HR
    obtain ⟨k, D, g, cap, m, h1, h2, rfl, rfl, h3, hown, hbel⟩ := hrel
    have HO := Lib.hid hown
    have HB := Lib.hid hbel
    have H1 := Lib.hid h1
    have H2 := Lib.hid h2
    have H3 := Lib.hid h3
    have hk8 : k ≤ 8 := by have := blen_le v; omega
    have hm : m ≤ 140737488351232 + 9 := by have := blen_le v; have := HN.out; omega
    clear h1 h2 h3 hown hbel
    cases k with
    | zero =>
      go_wp2
      go_ret
      exact rel_end H1.out H2.out H3.out HO.out HB.out
    | succ j =>
      have hj : ((j + 1 : Nat) : Int) - 1 = (j : Int) := by omega
      rw [hj]
      have hj8 : j < 8 := by omega
      clear hj hk8
      go_wp2_with fail
      refine (Sh.byte_c v j _ hv hj8).mono ?_
      rintro e w' ⟨rfl, rfl⟩
      obtain ⟨b, hb⟩ : ∃ b, b = v / 256 ^ j % 256 := ⟨_, rfl⟩
      have HBB := Lib.hid hb
      rw [← hb]
      clear hb
      go_wp2_with (
        (at_builtin
         refine wpList_append_own _ rfl (.tmp 32) (.tmp 36) 22 rfl w.heap.size 5 i0 (.int .u8 0) 1 1 Try.underlying22 hi0 hz0 hz1 hz2 rfl (by decide) (.slice (some ⟨g, 0, none⟩) m cap) m (vals (l ++ blen v :: D)) rfl (HO.out.alloc _) ⟨wr.heap.size, 0, none⟩ 1 1 (vals [b]) rfl rfl (cell_one wr _ 5) (vals_one _) (by simp only [maxLen]; omega) (by omega) (Nat.le_trans HB.out.size (by simp)) ?_
         intro v1 w4 hown1 hg1 hat1))
      obtain ⟨g', cap', rfl, hgw'⟩ := own_shape (w := w) hown1 (.inl (by omega))
      have hgg := (HO.out.lt g rfl).1
      have hbel4 : Below w.heap.size w w4 := (HB.out.alloc HB.out.size _).grown hg1 (Nat.le_trans HB.out.size (by simp)) (fun k hk => by simp [Value.ownBlock] at hk; omega)
      have HR : Hid (Rel w l v (.slice (some ⟨g', 0, none⟩) (m + 1) cap') (.int .i64 ((j : Int) - 1)) w4) := rel_step H1.out H2.out HBB.out (by rw [H3.out]) hown1 hbel4
      clear hown1 hg1 hat1 hbel4
      go_wp2
      go_roundw
      case rel => exact HR.out
      case measure => simp [intOf]

set_option maxHeartbeats 1600000 in
theorem rappend_any (w : World) (A : Option Addr) (l : List Nat) (n c v : Nat) (hn : l.length = n) (hA : A = none → n = 0 ∧ c = 0) (hb : Bytes w w.heap.size A l) (hl : n ≤ 140737488351232) (hv : v < 18446744073709551616) :
    Calls Try.prog 26 #[.slice A n c, .int .u64 (v : Int)] w (AppPost w (l ++ enc v)) := by
  obtain ⟨i0, hi0, hz0, hz1, hz2⟩ := info_parts byte_info
  have hB := Lib.hid hb
  have HN := Lib.hid hn
  clear hb hn
  have hbl := blen_le v
  obtain ⟨B, hBe⟩ : ∃ B, blen v = B := ⟨_, rfl⟩
  have HBe := Lib.hid hBe
  rw [hBe] at hbl
  clear hBe
  cases A with
  | none =>
    obtain ⟨rfl, rfl⟩ := hA rfl
    clear hA
    have HO : Hid ((w.alloc (.cells #[] 5)).ownsRow w.heap.size 5 1 (.slice (some ⟨w.heap.size, 0, none⟩) 0 0) 0 (vals l)) := by
      rw [List.eq_nil_of_length_eq_zero HN.out]
      exact World.ownsRow_lit w #[] 0 (Nat.le_refl _) (by simp [maxLen]) rfl
    have HB : Hid (Below w.heap.size w (w.alloc (.cells #[] 5))) := below_new w _
    go_enter Try.func26, Try.ntmps26
    go_wp2_with (
      (at_builtin
       refine wpList_append_own_none rfl (.tmp 8) (.tmp 9) 22 rfl w.heap.size 5 i0 1 Try.underlying22 hi0 (.slice (some ⟨w.heap.size, 0, none⟩) 0 0) 0 (vals l) rfl HO.out rfl ?_))
    generalize w.alloc (.cells #[] 5) = w2 at *
    refine (Sh.rlen_c v _ hv).mono ?_
    rintro e w' ⟨rfl, rfl⟩
    rw [HBe.out]
    go_wp2_with (
      (at_builtin
       refine wpList_append_own _ rfl (.tmp 13) (.tmp 16) 22 rfl w.heap.size 5 i0 (.int .u8 0) 1 1 Try.underlying22 hi0 hz0 hz1 hz2 rfl (by decide) (.slice (some ⟨w.heap.size, 0, none⟩) 0 0) 0 (vals l) rfl (HO.out.alloc _) ⟨w2.heap.size, 0, none⟩ 1 1 (vals [B]) rfl rfl (cell_one w2 _ 5) (vals_one _) (by simp only [maxLen]; omega) (by omega) (Nat.le_trans HB.out.size (by simp)) ?_
       intro v1 w3 hown1 hg1 hat1))
    obtain ⟨g, cap, rfl, hgw⟩ := own_shape (w := w) hown1 (.inl (by omega))
    have hbel3 : Below w.heap.size w w3 := (HB.out.alloc HB.out.size _).grown hg1 (Nat.le_trans HB.out.size (by simp)) (fun k hk => by simp [Value.ownBlock] at hk; omega)
    have HR : Hid (Rel w l v (.slice (some ⟨g, 0, none⟩) (0 + 1) cap) (.int .i64 ((B : Int) - 1)) w3) := by
      have := rel_start (w := w) (l := l) (v := v) (by rw [HN.out]) (by rw [HBe.out, vals_append]; exact hown1) hbel3
      rw [HBe.out] at this
      exact this
    clear hown1 hg1 hat1 hbel3 HO HB
    simp only [Nat.zero_add]
    go_loopw [5, 7] (fun s i wr => Rel w l v s i wr) (fun _ i _ => (intOf i + 1).toNat)
    case atStart => exact HR.out
    case round =>
      clear HR
      obtain ⟨k, D, g, cap, m, h1, h2, rfl, rfl, h3, hown, hbel⟩ := hrel
      have HO := Lib.hid hown
      have HB := Lib.hid hbel
      have H1 := Lib.hid h1
      have H2 := Lib.hid h2
      have H3 := Lib.hid h3
      have hk8 : k ≤ 8 := by have := blen_le v; omega
      have hm : m ≤ 140737488351232 + 9 := by have := blen_le v; have := HN.out; omega
      clear h1 h2 h3 hown hbel
      cases k with
      | zero =>
        go_wp2
        go_ret
        exact rel_end H1.out H2.out H3.out HO.out HB.out
      | succ j =>
        have hj : ((j + 1 : Nat) : Int) - 1 = (j : Int) := by omega
        rw [hj]
        have hj8 : j < 8 := by omega
        clear hj hk8
        go_wp2_with fail
        refine (Sh.rbyte_c v j _ hv hj8).mono ?_
        rintro e w' ⟨rfl, rfl⟩
        obtain ⟨b, hb⟩ : ∃ b, b = v / 256 ^ j % 256 := ⟨_, rfl⟩
        have HBB := Lib.hid hb
        rw [← hb]
        clear hb
        go_wp2_with (
          (at_builtin
           refine wpList_append_own _ rfl (.tmp 24) (.tmp 28) 22 rfl w.heap.size 5 i0 (.int .u8 0) 1 1 Try.underlying22 hi0 hz0 hz1 hz2 rfl (by decide) (.slice (some ⟨g, 0, none⟩) m cap) m (vals (l ++ blen v :: D)) rfl (HO.out.alloc _) ⟨wr.heap.size, 0, none⟩ 1 1 (vals [b]) rfl rfl (cell_one wr _ 5) (vals_one _) (by simp only [maxLen]; omega) (by omega) (Nat.le_trans HB.out.size (by simp)) ?_
           intro v1 w4 hown1 hg1 hat1))
        obtain ⟨g', cap', rfl, hgw'⟩ := own_shape (w := w) hown1 (.inl (by omega))
        have hgg := (HO.out.lt g rfl).1
        have hbel4 : Below w.heap.size w w4 := (HB.out.alloc HB.out.size _).grown hg1 (Nat.le_trans HB.out.size (by simp)) (fun k hk => by simp [Value.ownBlock] at hk; omega)
        have HR : Hid (Rel w l v (.slice (some ⟨g', 0, none⟩) (m + 1) cap') (.int .i64 ((j : Int) - 1)) w4) := rel_step H1.out H2.out HBB.out (by rw [H3.out]) hown1 hbel4
        clear hown1 hg1 hat1 hbel4
        go_wp2
        go_roundw
        case rel => exact HR.out
        case measure => simp [intOf]
  | some ad =>
    clear hA
    have HC : Hid (∀ j u, (vals l)[j]? = some u → (w.alloc (.cells #[] 5)).cell? (ad.add j) = some u) := by
      intro j u hu
      rw [vals_get] at hu
      obtain ⟨x, hx, rfl⟩ := Option.map_eq_some_iff.1 hu
      have hjl : j < l.length := (List.getElem?_eq_some_iff.1 hx).1
      obtain ⟨ad', e, hadb, hc⟩ := hB.out.2 (by omega)
      obtain rfl := Option.some.inj e
      exact (World.cell?_alloc_lt _ _ _ (by rw [block_add]; exact hadb)).trans (hc j x hx)
    go_enter Try.func26, Try.ntmps26
    go_wp2_with (
      (at_builtin
       refine wpList_append_own _ rfl (.tmp 8) (.tmp 9) 22 rfl w.heap.size 5 i0 (.int .u8 0) 1 1 Try.underlying22 hi0 hz0 hz1 hz2 rfl (by decide) (.slice (some ⟨w.heap.size, 0, none⟩) 0 0) 0 [] rfl (World.ownsRow_lit w #[] 0 (Nat.le_refl _) (by simp [maxLen]) rfl) ad n c (vals l) rfl (by rw [vals_length, HN.out, Nat.mul_one]) HC.out (vals_one l) (by simp only [maxLen]; omega) (by omega) (by simp) ?_
       intro v1 w2 hown1 hg1 hat1))
    simp only [Nat.zero_add, List.nil_append] at hown1
    obtain ⟨g0, cap0, rfl, hgw0⟩ := own_shape (w := w) hown1 (.inr (fun h => by simp at hat1; exact hat1 h))
    have hbel : Below w.heap.size w w2 := (below_new w _).grown hg1 (by simp) (fun k hk => by simp [Value.ownBlock] at hk; omega)
    have HO := Lib.hid hown1
    have HB := Lib.hid hbel
    clear hown1 hg1 hat1 hbel HC
    refine (Sh.rlen_c v _ hv).mono ?_
    rintro e w' ⟨rfl, rfl⟩
    rw [HBe.out]
    go_wp2_with (
      (at_builtin
       refine wpList_append_own _ rfl (.tmp 13) (.tmp 16) 22 rfl w.heap.size 5 i0 (.int .u8 0) 1 1 Try.underlying22 hi0 hz0 hz1 hz2 rfl (by decide) (.slice (some ⟨g0, 0, none⟩) n cap0) n (vals l) rfl (HO.out.alloc _) ⟨(w2).heap.size, 0, none⟩ 1 1 (vals [B]) rfl rfl (cell_one (w2) _ 5) (vals_one _) (by simp only [maxLen]; omega) (by omega) (Nat.le_trans HB.out.size (by simp)) ?_
       intro v1 w3 hown1 hg1 hat1))
    obtain ⟨g, cap, rfl, hgw⟩ := own_shape (w := w) hown1 (.inl (by omega))
    have hbel3 : Below w.heap.size w w3 := (HB.out.alloc HB.out.size _).grown hg1 (Nat.le_trans HB.out.size (by simp)) (fun k hk => by simp [Value.ownBlock] at hk; omega)
    have HR : Hid (Rel w l v (.slice (some ⟨g, 0, none⟩) (n + 1) cap) (.int .i64 ((B : Int) - 1)) w3) := by
      have := rel_start (w := w) (l := l) (v := v) (by rw [HN.out]) (by rw [HBe.out, vals_append]; exact hown1) hbel3
      rw [HBe.out] at this
      exact this
    clear hown1 hg1 hat1 hbel3 HO HB
    go_loopw [5, 7] (fun s i wr => Rel w l v s i wr) (fun _ i _ => (intOf i + 1).toNat)
    case atStart => exact HR.out
    case round =>
      clear HR
      obtain ⟨k, D, g, cap, m, h1, h2, rfl, rfl, h3, hown, hbel⟩ := hrel
      have HO := Lib.hid hown
      have HB := Lib.hid hbel
      have H1 := Lib.hid h1
      have H2 := Lib.hid h2
      have H3 := Lib.hid h3
      have hk8 : k ≤ 8 := by have := blen_le v; omega
      have hm : m ≤ 140737488351232 + 9 := by have := blen_le v; have := HN.out; omega
      clear h1 h2 h3 hown hbel
      cases k with
      | zero =>
        go_wp2
        go_ret
        exact rel_end H1.out H2.out H3.out HO.out HB.out
      | succ j =>
        have hj : ((j + 1 : Nat) : Int) - 1 = (j : Int) := by omega
        rw [hj]
        have hj8 : j < 8 := by omega
        clear hj hk8
        go_wp2_with fail
        refine (Sh.rbyte_c v j _ hv hj8).mono ?_
        rintro e w' ⟨rfl, rfl⟩
        obtain ⟨b, hb⟩ : ∃ b, b = v / 256 ^ j % 256 := ⟨_, rfl⟩
        have HBB := Lib.hid hb
        rw [← hb]
        clear hb
        go_wp2_with (
          (at_builtin
           refine wpList_append_own _ rfl (.tmp 24) (.tmp 28) 22 rfl w.heap.size 5 i0 (.int .u8 0) 1 1 Try.underlying22 hi0 hz0 hz1 hz2 rfl (by decide) (.slice (some ⟨g, 0, none⟩) m cap) m (vals (l ++ blen v :: D)) rfl (HO.out.alloc _) ⟨wr.heap.size, 0, none⟩ 1 1 (vals [b]) rfl rfl (cell_one wr _ 5) (vals_one _) (by simp only [maxLen]; omega) (by omega) (Nat.le_trans HB.out.size (by simp)) ?_
           intro v1 w4 hown1 hg1 hat1))
        obtain ⟨g', cap', rfl, hgw'⟩ := own_shape (w := w) hown1 (.inl (by omega))
        have hgg := (HO.out.lt g rfl).1
        have hbel4 : Below w.heap.size w w4 := (HB.out.alloc HB.out.size _).grown hg1 (Nat.le_trans HB.out.size (by simp)) (fun k hk => by simp [Value.ownBlock] at hk; omega)
        have HR : Hid (Rel w l v (.slice (some ⟨g', 0, none⟩) (m + 1) cap') (.int .i64 ((j : Int) - 1)) w4) := rel_step H1.out H2.out HBB.out (by rw [H3.out]) hown1 hbel4
        clear hown1 hg1 hat1 hbel4
        go_wp2
        go_roundw
        case rel => exact HR.out
        case measure => simp [intOf]
end Go.Proofs.Ytpleafcjacbkkaa.Nu
