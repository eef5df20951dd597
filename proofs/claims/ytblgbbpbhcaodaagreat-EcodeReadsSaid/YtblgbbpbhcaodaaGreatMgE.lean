/- Words and contracts that the proofs of this seat stand on, part 5 of 14. -/
import Derived.Test.YtblgbbpbhcaodaaGreatMgD
import Derived.Laws.CopyOwn
import Derived.Laws.AppendOwnNone
import Derived.Maps.AppendAt
import Derived.Deep.AppendLies
import Derived.Test.YtblgbbpbhcaodaaGreatMgC

/- The contract of the document's Read at a place where a byte stands: it answers what num's Read answers. For every slice of bytes; nothing has changed. -/
namespace Go.Proofs.YtblgbbpbhcaodaaGreat.Nu
open Go.ChangeShapes Go.WideShapes Go.ChangeAt Go.RowKit
set_option linter.unusedVariables false
set_option maxRecDepth 4000

theorem form_false {n : Nat} {r : List Nat} (h : form n r = false) : 8 < n ∨ (0 < n ∧ r[0]? = some 0) := by
  have := of_decide_eq_false h
  by_cases h8 : 8 < n
  · exact .inl h8
  · refine .inr ⟨by
      rcases Nat.eq_zero_or_pos n with h0 | h0
      · exact absurd ⟨by omega, .inl h0⟩ this
      · exact h0, ?_⟩
    by_cases hr : r[0]? = some 0
    · exact hr
    · exact absurd ⟨by omega, .inr hr⟩ this
theorem add_lit (ad : Addr) (k : Nat) : ad.add (k + 1) = ⟨ad.block, ad.off + (k + 1), none⟩ := by unfold Addr.add; simp
theorem form_true {n : Nat} {r : List Nat} (h : form n r = true) : n ≤ 8 ∧ (n = 0 ∨ r[0]? ≠ some 0) := of_decide_eq_true h

/-- the loop's rounds. -/
theorem val_round {w : World} {ad : Addr} {l : List Nat} {a j x : Nat} (hb : Bytes w w.heap.size (some ad) l) (hj : j < x) (hx : x ≤ 8) (hl : x ≤ (l.drop (a + 1)).length) :
    ∃ z : Nat, z < 256 ∧ w.cell? (ad.add (a + (j + 1))) = some (.int .u8 (z : Int)) ∧ val ((l.drop (a + 1)).take (j + 1)) = val ((l.drop (a + 1)).take j) * 256 + z ∧ val ((l.drop (a + 1)).take j) < 72057594037927936 := by
  have hlt : a + (j + 1) < l.length := by rw [List.length_drop] at hl; omega
  obtain ⟨ad', z, e, hz, hlz, hcell⟩ := hb.at_ hlt
  obtain rfl := Option.some.inj e
  refine ⟨z, hz, hcell, ?_, ?_⟩
  · rw [← val_snoc, ← take_snoc]
    rw [List.getElem?_drop]
    rw [show a + 1 + j = a + (j + 1) by omega]
    exact hlz
  · have h1 := val_lt (small_take (small_drop hb.1 (a + 1)) j)
    have h2 : 256 ^ ((l.drop (a + 1)).take j).length ≤ 256 ^ 7 := Nat.pow_le_pow_right (by decide) (by rw [List.length_take]; omega)
    exact Nat.lt_of_lt_of_le h1 h2

set_option maxHeartbeats 1600000 in
theorem rread_some (w : World) (ad : Addr) (l : List Nat) (n c a x v y f : Nat) (hn : l.length = n) (hnm : n ≤ 9223372036854775807) (hb : Bytes w w.heap.size (some ad) l) (ha : a < n) (hx : l[a]? = some x)
    (hw : What x (l.drop (a + 1)) a v y f) : Calls Tryz.prog 40 #[.slice (some ad) n c, .int .i64 (a : Int)] w (Says w v y f) := by
  obtain ⟨ad', x', e, hx8, hlx, hcell⟩ := hb.at_ (k := a) (by omega)
  obtain rfl := Option.some.inj e
  obtain rfl : x = x' := Option.some.inj (hx.symm.trans hlx)
  have HB := Lib.hid hb
  have HN := Lib.hid hn
  obtain ⟨m, hm⟩ : ∃ m : Nat, n = a + 1 + m := ⟨n - (a + 1), by omega⟩
  have hlen : (l.drop (a + 1)).length = m := by rw [List.length_drop]; omega
  have hleft : (n : Int) - (a : Int) - 1 = (m : Int) := by omega
  have h0 : (l.drop (a + 1))[0]? = l[a + 1]? := by rw [List.getElem?_drop]
  have HM := Lib.hid hm
  clear hx hlx hn hm
  have d0 : decide ((a : Int) < 0) = false := decide_eq_false (by omega)
  have d1 : decide ((n : Int) < (a : Int)) = false := decide_eq_false (by omega)
  have d2 : ((a : Int) == (n : Int)) = false := by rw [beq_eq_false_iff_ne]; omega
  have d3 : (0 : Int) ≤ (a : Int) := by omega
  have d4 : (a : Int) < (n : Int) := by omega
  cases hw with
  | form h =>
    clear hb
    rcases form_false h with h8 | ⟨hp, hz⟩
    · have g8 : decide ((8 : Int) < (x : Int)) = true := decide_eq_true (by omega)
      clear h h0 hlen
      go_enter Tryz.func40, Tryz.ntmps40
      go_wp2
      go_ret3
      exact ⟨rfl, 0, rfl⟩
    · by_cases h8 : 8 < x
      · have g8 : decide ((8 : Int) < (x : Int)) = true := decide_eq_true (by omega)
        clear h h0 hlen hz
        go_enter Tryz.func40, Tryz.ntmps40
        go_wp2
        go_ret3
        exact ⟨rfl, 0, rfl⟩
      · have g8 : decide ((8 : Int) < (x : Int)) = false := decide_eq_false (by omega)
        rw [h0] at hz
        have hlt : a + 1 < l.length := (List.getElem?_eq_some_iff.1 hz).1
        obtain ⟨ad', z, e, _, hlz, hcell1⟩ := HB.out.at_ hlt
        obtain rfl := Option.some.inj e
        obtain rfl : 0 = z := Option.some.inj (hz.symm.trans hlz)
        rw [add_lit] at hcell1
        have gp : decide ((0 : Int) < (x : Int)) = true := decide_eq_true (by omega)
        have gm : decide ((0 : Int) < (m : Int)) = true := decide_eq_true (by have := HN.out; omega)
        have b1 : (0 : Int) ≤ (a : Int) + 1 := by omega
        have b2 : (a : Int) + 1 < (n : Int) := by have := HN.out; omega
        clear h h0 hlen hz hlz hlt
        go_enter Tryz.func40, Tryz.ntmps40
        go_wp2
        go_ret3
        exact ⟨rfl, 0, rfl⟩
  | short h hl =>
    obtain ⟨h8, hor⟩ := form_true h
    have gs : decide ((m : Int) < (x : Int)) = true := decide_eq_true (by rw [hlen] at hl; omega)
    have gs2 : decide (m < x) = true := decide_eq_true (by rw [hlen] at hl; omega)
    have g8 : decide ((8 : Int) < (x : Int)) = false := decide_eq_false (by omega)
    clear h hb
    have hx0 : ¬ x = 0 := by rw [hlen] at hl; omega
    · have gp : decide ((0 : Int) < (x : Int)) = true := decide_eq_true (by omega)
      by_cases hm0 : m = 0
      · have gm : decide ((0 : Int) < (m : Int)) = false := decide_eq_false (by omega)
        clear hor h0
        clear hlen
        go_enter Tryz.func40, Tryz.ntmps40
        go_wp2
        go_ret3
        exact ⟨rfl, 0, rfl⟩
      · have gm : decide ((0 : Int) < (m : Int)) = true := decide_eq_true (by omega)
        have hlt : a + 1 < l.length := by have := HN.out; omega
        obtain ⟨ad', z, e, hz, hlz, hcell1⟩ := HB.out.at_ hlt
        obtain rfl := Option.some.inj e
        rw [add_lit] at hcell1
        have hz0 : z ≠ 0 := by
          rcases hor with h1 | h1
          · exact absurd h1 hx0
          · intro h2; rw [h0, hlz, h2] at h1; exact h1 rfl
        have gz : ((z : Int) == 0) = false := by rw [beq_eq_false_iff_ne]; omega
        have b1 : (0 : Int) ≤ (a : Int) + 1 := by omega
        have b2 : (a : Int) + 1 < (n : Int) := by have := HN.out; omega
        clear hor h0 hlz hlt hz0
        clear hlen
        go_enter Tryz.func40, Tryz.ntmps40
        go_wp2
        go_ret3
        exact ⟨rfl, 0, rfl⟩
  | ok h hl =>
    obtain ⟨h8, hor⟩ := form_true h
    have hl' : x ≤ m := by rw [hlen] at hl; exact hl
    clear hl
    have gs : decide ((m : Int) < (x : Int)) = false := decide_eq_false (by omega)
    have gs2 : decide (m < x) = false := decide_eq_false (by omega)
    have g8 : decide ((8 : Int) < (x : Int)) = false := decide_eq_false (by omega)
    clear h hb
    by_cases hx0 : x = 0
    · have gp : decide ((0 : Int) < (x : Int)) = false := decide_eq_false (by omega)
      clear hor h0
      have hrd := Lib.hid (show ∀ j, j < x → _ from fun j hj => val_round (a := a) HB.out hj h8 (by rw [hlen]; exact hl'))
      have HLT := Lib.hid (show x ≤ m from hl')
      have hbnd : a + 1 + x ≤ 9223372036854775807 := by omega
      clear hlen
      go_enter Tryz.func40, Tryz.ntmps40
      go_wp2
      go_loop [9, 10] (fun u i => ∃ j : Nat, j ≤ x ∧ i = .int .i64 ((j : Int) + 1) ∧ u = .int .u64 ((val ((l.drop (a + 1)).take j) : Nat) : Int)) (fun _ i => x + 1 - (intOf i).toNat)
      case atStart => exact ⟨0, Nat.zero_le _, rfl, by rw [List.take_zero]; rfl⟩
      case round =>
        obtain ⟨j, hj, rfl, rfl⟩ := hrel
        by_cases hlt : j < x
        · omega
        · obtain rfl : j = x := by omega
          have c3 : decide ((j : Int) + 1 ≤ (j : Int)) = false := decide_eq_false (by omega)
          have hv : val ((l.drop (a + 1)).take j) < 18446744073709551616 := by
            have h1 := val_lt (small_take (small_drop HB.out.1 (a + 1)) j)
            have h2 : 256 ^ ((l.drop (a + 1)).take j).length ≤ 256 ^ 8 := Nat.pow_le_pow_right (by decide) (by rw [List.length_take]; omega)
            exact Nat.lt_of_lt_of_le h1 h2
          generalize val ((l.drop (a + 1)).take j) = u at *
          go_wp2
          go_ret3
          exact ⟨rfl, 0, rfl⟩
    · have gp : decide ((0 : Int) < (x : Int)) = true := decide_eq_true (by omega)
      have hm0 : ¬ m = 0 := by omega
      · have gm : decide ((0 : Int) < (m : Int)) = true := decide_eq_true (by omega)
        have hlt : a + 1 < l.length := by have := HN.out; omega
        obtain ⟨ad', z, e, hz, hlz, hcell1⟩ := HB.out.at_ hlt
        obtain rfl := Option.some.inj e
        rw [add_lit] at hcell1
        have hz0 : z ≠ 0 := by
          rcases hor with h1 | h1
          · exact absurd h1 hx0
          · intro h2; rw [h0, hlz, h2] at h1; exact h1 rfl
        have gz : ((z : Int) == 0) = false := by rw [beq_eq_false_iff_ne]; omega
        have b1 : (0 : Int) ≤ (a : Int) + 1 := by omega
        have b2 : (a : Int) + 1 < (n : Int) := by have := HN.out; omega
        clear hor h0 hlz hlt hz0
        have hrd := Lib.hid (show ∀ j, j < x → _ from fun j hj => val_round (a := a) HB.out hj h8 (by rw [hlen]; exact hl'))
        have HLT := Lib.hid (show x ≤ m from hl')
        have hbnd : a + 1 + x ≤ 9223372036854775807 := by omega
        clear hlen
        go_enter Tryz.func40, Tryz.ntmps40
        go_wp2
        go_loop [9, 10] (fun u i => ∃ j : Nat, j ≤ x ∧ i = .int .i64 ((j : Int) + 1) ∧ u = .int .u64 ((val ((l.drop (a + 1)).take j) : Nat) : Int)) (fun _ i => x + 1 - (intOf i).toNat)
        case atStart => exact ⟨0, Nat.zero_le _, rfl, by rw [List.take_zero]; rfl⟩
        case round =>
          obtain ⟨j, hj, rfl, rfl⟩ := hrel
          by_cases hlt : j < x
          · obtain ⟨z, hz, hcz, hval, hv⟩ := hrd.out j hlt
            have hcz1 : w.cell? ⟨ad.block, ad.off + (a + (j + 1)), none⟩ = some (.int .u8 (z : Int)) := by
              rw [← hcz, show a + (j + 1) = (a + j) + 1 by omega, add_lit]
            have hcz2 : w.cell? ⟨ad.block, ad.off + (a + j + 1), none⟩ = some (.int .u8 (z : Int)) := by
              rw [← hcz, show a + (j + 1) = (a + j) + 1 by omega, add_lit]
            have HV := Lib.hid hval
            clear hval
            generalize val ((l.drop (a + 1)).take j) = u at *
            have c1 : (0 : Int) ≤ (a : Int) + ((j : Int) + 1) := by omega
            have c2 : (a : Int) + ((j : Int) + 1) < (n : Int) := by have := HLT.out; omega
            have c3 : decide ((j : Int) + 1 ≤ (x : Int)) = true := decide_eq_true (by omega)
            go_wp2
            go_round
            case rel => exact ⟨j + 1, by omega, by go_num, by rw [HV.out, Int.natCast_add, Int.natCast_mul]; rfl⟩
            case measure => simp [intOf]; omega
          · obtain rfl : j = x := by omega
            have c3 : decide ((j : Int) + 1 ≤ (j : Int)) = false := decide_eq_false (by omega)
            have hv : val ((l.drop (a + 1)).take j) < 18446744073709551616 := by
              have h1 := val_lt (small_take (small_drop HB.out.1 (a + 1)) j)
              have h2 : 256 ^ ((l.drop (a + 1)).take j).length ≤ 256 ^ 8 := Nat.pow_le_pow_right (by decide) (by rw [List.length_take]; omega)
              exact Nat.lt_of_lt_of_le h1 h2
            generalize val ((l.drop (a + 1)).take j) = u at *
            go_wp2
            go_ret3
            exact ⟨rfl, 0, rfl⟩
end Go.Proofs.YtblgbbpbhcaodaaGreat.Nu

/- The contracts of num's Append and of the document's: a new list of the bytes that came in and the number's bytes behind them; nothing that was there has changed. Condition: at most 2^47 - 4096 bytes came in. -/
namespace Go.Proofs.YtblgbbpbhcaodaaGreat.Nu
open Go.ChangeShapes Go.WideShapes Go.ChangeAt Go.RowKit
set_option linter.unusedVariables false
set_option maxRecDepth 4000

theorem byte_info : (Tryz.prog.info? 5).map (fun i => (i.zero, i.size, i.bytes)) = some (some (.int .u8 0), 1, 1) := by kernel_rfl
theorem byte_size : (Tryz.prog.info? 5).map (·.size) = some 1 := by kernel_rfl

/-- a call that answers a new list of these bytes. -/
def AppPost (w : World) (m : List Nat) (e : Ending) (w' : World) : Prop :=
  ∃ g cap n, e = .returned (.slice (some ⟨g, 0, none⟩) n cap) ∧ m.length = n ∧ w.heap.size ≤ g ∧ w'.ownsRow w.heap.size 5 1 (.slice (some ⟨g, 0, none⟩) n cap) n (vals m) ∧ Below w.heap.size w w'

/-- what holds at each round's head. -/
def Rel (w : World) (l : List Nat) (v : Nat) (s i : Value) (wr : World) : Prop :=
  ∃ (k : Nat) (D : List Nat) (g cap n : Nat), k + D.length = blen v ∧ D ++ dig k v = dig (blen v) v ∧ i = .int .i64 ((k : Int) - 1) ∧ s = .slice (some ⟨g, 0, none⟩) n cap ∧ n = l.length + 1 + D.length ∧
    wr.ownsRow w.heap.size 5 1 (.slice (some ⟨g, 0, none⟩) n cap) n (vals (l ++ blen v :: D)) ∧ Below w.heap.size w wr

/-- what a step of the list leaves. -/
theorem own_shape {w w1 : World} {B n : Nat} {v1 : Value} {xs : List Value} (hown : w1.ownsRow B 5 1 v1 n xs) (hn : 0 < n ∨ ¬ v1 = .slice none 0 0) : ∃ g cap, v1 = .slice (some ⟨g, 0, none⟩) n cap ∧ B ≤ g := by
  rcases hown.2 with ⟨h, hz⟩ | ⟨g, cap, _, e, hg, _⟩
  · rcases hn with hn | hn
    · omega
    · exact absurd h hn
  · exact ⟨g, cap, e, hg⟩

theorem cell_one (w : World) (x : Value) (t : TypeId) : ∀ (j : Nat) (u : Value), [x][j]? = some u → (w.alloc (.cells #[x] t)).cell? ((⟨w.heap.size, 0, none⟩ : Addr).add j) = some u := by
  intro j u hu
  cases j with
  | zero =>
    rw [zero_add, World.cell?_alloc_new]
    simpa using hu
  | succ j => simp at hu

theorem rel_start {w w1 : World} {l : List Nat} {v g cap n : Nat} (hn : n = l.length + 1) (h : w1.ownsRow w.heap.size 5 1 (.slice (some ⟨g, 0, none⟩) n cap) n (vals (l ++ [blen v]))) (hb : Below w.heap.size w w1) :
    Rel w l v (.slice (some ⟨g, 0, none⟩) n cap) (.int .i64 ((blen v : Int) - 1)) w1 :=
  ⟨blen v, [], g, cap, n, by simp, by simp, rfl, rfl, by simpa using hn, h, hb⟩
theorem rel_end {w wr : World} {l : List Nat} {v g cap n : Nat} {D : List Nat} (h1 : 0 + D.length = blen v) (h2 : D ++ dig 0 v = dig (blen v) v) (hn : n = l.length + 1 + D.length)
    (h : wr.ownsRow w.heap.size 5 1 (.slice (some ⟨g, 0, none⟩) n cap) n (vals (l ++ blen v :: D))) (hb : Below w.heap.size w wr) :
    AppPost w (l ++ enc v) (.returned (.slice (some ⟨g, 0, none⟩) n cap)) wr := by
  have e : D = dig (blen v) v := by rw [← h2]; simp [dig]
  refine ⟨g, cap, n, rfl, ?_, (h.lt g rfl).1, ?_, hb⟩
  · rw [List.length_append, enc_length]; omega
  · unfold enc; rw [← e]; exact h
theorem rel_step {w wr : World} {l : List Nat} {v g cap n j b : Nat} {D : List Nat} (h1 : j + 1 + D.length = blen v) (h2 : D ++ dig (j + 1) v = dig (blen v) v) (hb1 : b = v / 256 ^ j % 256) (hn : n = l.length + 1 + D.length + 1)
    (h : wr.ownsRow w.heap.size 5 1 (.slice (some ⟨g, 0, none⟩) n cap) n (vals (l ++ blen v :: D) ++ vals [b])) (hb : Below w.heap.size w wr) :
    Rel w l v (.slice (some ⟨g, 0, none⟩) n cap) (.int .i64 ((j : Int) - 1)) wr := by
  refine ⟨j, D ++ [b], g, cap, n, by simp; omega, ?_, rfl, rfl, by simp; omega, ?_, hb⟩
  · rw [← h2, hb1]; simp [dig]
  · rw [← vals_append] at h
    simpa using h

/-- the bytes copied into a new row with room behind them. -/
theorem copied (w : World) (A : Option Addr) (l : List Nat) (n c cap : Nat) (hn : l.length = n) (hcap : n ≤ cap) (hm : cap ≤ maxLen) (hb : Bytes w w.heap.size A l) :
    ∃ w2, (Builtin.copy_ #[22, 22] 3 #[.slice (some ⟨w.heap.size, 0, none⟩) n cap, .slice A n c]).run Tryz.prog (w.alloc (.cells (madeCells #[.int .u8 0] cap) 5)) = .ok (.int .i64 (n : Int)) w2 ∧
      w2.ownsRow w.heap.size 5 1 (.slice (some ⟨w.heap.size, 0, none⟩) n cap) n (vals l) ∧ Below w.heap.size w w2 := by
  have hg : (w.alloc (.cells (madeCells #[.int .u8 0] cap) 5)).heap[w.heap.size]? = some (.cells (madeCells #[.int .u8 0] cap) 5 (0, 0)) := heap_alloc_new w _
  by_cases h0 : n = 0
  · subst h0
    obtain rfl := List.eq_nil_of_length_eq_zero hn
    refine ⟨_, run_copy_none (P := Tryz.prog) _ 22 22 3 5 _ _ _ _ _ _ Tryz.underlying22 byte_size rfl, ⟨rfl, .inr ⟨_, cap, _, rfl, Nat.le_refl _, hg, Nat.zero_le _, hm, by simp [madeCells], by simp [vals]⟩⟩, below_new w _⟩
  · obtain ⟨ad, rfl, hadb, hc⟩ := hb.2 (by omega)
    have hr := run_copy_row (P := Tryz.prog) (w.alloc (.cells (madeCells #[.int .u8 0] cap) 5)) 22 22 3 5 w.heap.size 0 n cap ad n c (madeCells #[.int .u8 0] cap) 5 (vals l) Tryz.underlying22 byte_size hg (by rw [vals_length, hn]; exact (Nat.min_self n).symm)
      (fun j u hu => by
        rw [vals_get] at hu
        obtain ⟨x, hx, rfl⟩ := Option.map_eq_some_iff.1 hu
        exact (World.cell?_alloc_lt _ _ _ (by rw [block_add]; exact hadb)).trans (hc j x hx))
      (by rw [vals_length, size_madeCells]; omega) (vals_one l)
    rw [vals_length, hn] at hr
    refine ⟨_, hr, ⟨by rw [vals_length]; omega, .inr ⟨_, cap, _, rfl, Nat.le_refl _, setRow_heap _ _ _ _ 5 _ hg, hcap, hm, ?_, ?_⟩⟩, below_setRow (below_new w _) (Nat.le_refl _) _⟩
    · simp [size_madeCells, vals_length]; omega
    · simp only [List.take_zero, List.nil_append, Nat.mul_one]
      rw [← hn, ← vals_length l]
      exact List.take_left

set_option maxHeartbeats 1600000 in
theorem append_any (w : World) (A : Option Addr) (l : List Nat) (n c v : Nat) (hn : l.length = n) (hb : Bytes w w.heap.size A l) (hl : n ≤ 140737488351232) (hv : v < 18446744073709551616) :
    Calls Tryz.prog 73 #[.slice A n c, .int .u64 (v : Int)] w (AppPost w (l ++ enc v)) := by
  obtain ⟨i0, hi0, hz0, hz1, hz2⟩ := info_parts byte_info
  have hB := Lib.hid hb
  have HN := Lib.hid hn
  clear hb hn
  have hbl := blen_le v
  obtain ⟨B, hBe⟩ : ∃ B, blen v = B := ⟨_, rfl⟩
  have HBe := Lib.hid hBe
  rw [hBe] at hbl
  clear hBe
  go_enter Tryz.func73, Tryz.ntmps73
  go_wp2_with fail
  refine (Sh.size_c v _ hv).mono ?_
  rintro e w' ⟨rfl, rfl⟩
  rw [HBe.out]
  have hmk := run_make (P := Tryz.prog) w 22 5 i0 (.int .u8 0) Tryz.underlying22 hi0 hz0 .i64 .i64 (n : Int) ((n : Int) + (1 + (B : Int))) (by omega) (by omega) (by rw [hz2]; omega) (by omega)
  have hmx : n + (1 + B) ≤ maxLen := by simp only [maxLen]; omega
  obtain ⟨w2, hcp, hown, hbel⟩ := copied w A l n c (n + (1 + B)) HN.out (by omega) hmx hB.out
  have HO := Lib.hid hown
  have HB := Lib.hid hbel
  clear hown hbel hmx
  go_wp2_with fail
  clear hmk hcp
  refine (Sh.len_c v _ hv).mono ?_
  rintro e w' ⟨rfl, rfl⟩
  rw [HBe.out]
  go_wp2_with (
    (at_builtin
     refine wpList_append_own _ rfl (.tmp 21) (.tmp 24) 22 rfl w.heap.size 5 i0 (.int .u8 0) 1 1 Tryz.underlying22 hi0 hz0 hz1 hz2 rfl (by decide) (.slice (some ⟨w.heap.size, 0, none⟩) n (n + (1 + B))) n (vals l) rfl (HO.out.alloc _) ⟨w2.heap.size, 0, none⟩ 1 1 (vals [B]) rfl rfl (cell_one w2 _ 5) (vals_one _) (by simp only [maxLen]; omega) (by omega) (Nat.le_trans HB.out.size (by simp)) ?_
     intro v1 w3 hown1 hg1 hat1))
  obtain ⟨g, cap, rfl, hgw⟩ := own_shape (w := w) hown1 (.inl (by omega))
  have hbel3 : Below w.heap.size w w3 := (HB.out.alloc HB.out.size _).grown hg1 (Nat.le_trans HB.out.size (by simp)) (fun k hk => by simp [Value.ownBlock] at hk; omega)
  have HR : Hid (Rel w l v (.slice (some ⟨g, 0, none⟩) (n + 1) cap) (.int .i64 ((B : Int) - 1)) w3) := by
    have := rel_start (w := w) (l := l) (v := v) (by rw [HN.out]) (by rw [HBe.out, vals_append]; exact hown1) hbel3
    rw [HBe.out] at this
    exact this
  clear hown1 hg1 hat1 hbel3 HO HB
  go_loopw [5, 7] (fun s i wr => Rel w l v s i wr) (fun _ i _ => (intOf i + 1).toNat)
  case atStart => exact HR.out
  case round =>
    clear HR
    obtain ⟨k, D, g, cap, m, h1, h2, rfl, rfl, h3, hown, hbel⟩ := hrel
    have HO := Lib.hid hown
    have HB := Lib.hid hbel
    have H1 := Lib.hid h1
    have H2 := Lib.hid h2
    have H3 := Lib.hid h3
    have hk8 : k ≤ 8 := by have := blen_le v; omega
    have hm : m ≤ 140737488351232 + 9 := by have := blen_le v; have := HN.out; omega
    clear h1 h2 h3 hown hbel
    cases k with
    | zero =>
      go_wp2
      go_ret
      exact rel_end H1.out H2.out H3.out HO.out HB.out
    | succ j =>
      have hj : ((j + 1 : Nat) : Int) - 1 = (j : Int) := by omega
      rw [hj]
      have hj8 : j < 8 := by omega
      clear hj hk8
      go_wp2_with fail
      refine (Sh.byte_c v j _ hv hj8).mono ?_
      rintro e w' ⟨rfl, rfl⟩
      obtain ⟨b, hb⟩ : ∃ b, b = v / 256 ^ j % 256 := ⟨_, rfl⟩
      have HBB := Lib.hid hb
      rw [← hb]
      clear hb
      go_wp2_with (
        (at_builtin
         refine wpList_append_own _ rfl (.tmp 32) (.tmp 36) 22 rfl w.heap.size 5 i0 (.int .u8 0) 1 1 Tryz.underlying22 hi0 hz0 hz1 hz2 rfl (by decide) (.slice (some ⟨g, 0, none⟩) m cap) m (vals (l ++ blen v :: D)) rfl (HO.out.alloc _) ⟨wr.heap.size, 0, none⟩ 1 1 (vals [b]) rfl rfl (cell_one wr _ 5) (vals_one _) (by simp only [maxLen]; omega) (by omega) (Nat.le_trans HB.out.size (by simp)) ?_
         intro v1 w4 hown1 hg1 hat1))
      obtain ⟨g', cap', rfl, hgw'⟩ := own_shape (w := w) hown1 (.inl (by omega))
      have hgg := (HO.out.lt g rfl).1
      have hbel4 : Below w.heap.size w w4 := (HB.out.alloc HB.out.size _).grown hg1 (Nat.le_trans HB.out.size (by simp)) (fun k hk => by simp [Value.ownBlock] at hk; omega)
      have HR : Hid (Rel w l v (.slice (some ⟨g', 0, none⟩) (m + 1) cap') (.int .i64 ((j : Int) - 1)) w4) := rel_step H1.out H2.out HBB.out (by rw [H3.out]) hown1 hbel4
      clear hown1 hg1 hat1 hbel4
      go_wp2
      go_roundw
      case rel => exact HR.out
      case measure => simp [intOf]

end Go.Proofs.YtblgbbpbhcaodaaGreat.Nu

/- Words for the memory that the claims of layer pack speak of: a block that is just these cells, a world in which one block alone has turned; and the plain functions that say what a reader tells and what is left to it. No program is walked here. -/
namespace Go.Proofs.YtblgbbpbhcaodaaGreat.Nu
open Go.ChangeShapes Go.WideShapes Go.ChangeAt Go.RowKit
set_option linter.unusedVariables false
set_option maxRecDepth 4000

/-- block g is these cells, of the type t, and may be written. -/
def At (w : World) (g : Nat) (t : TypeId) (cs : Array Value) : Prop := w.heap[g]? = some (.cells cs t (0, 0))
theorem At.lt {w : World} {g : Nat} {t : TypeId} {cs : Array Value} (h : At w g t cs) : g < w.heap.size := by
  rcases Nat.lt_or_ge g w.heap.size with hl | hl
  · exact hl
  · unfold At at h; rw [Array.getElem?_eq_none hl] at h; cases h
theorem At.cell {w : World} {g : Nat} {t : TypeId} {cs : Array Value} (h : At w g t cs) (i : Nat) : w.cell? ⟨g, i, none⟩ = cs[i]? := cell_of_row w g i cs t (0, 0) h
theorem At.frozen {w : World} {g : Nat} {t : TypeId} {cs : Array Value} (h : At w g t cs) (i : Nat) : w.frozen? ⟨g, i, none⟩ = false := by
  unfold At at h
  simp [World.frozen?, h]
theorem At.new (w : World) (t : TypeId) (cs : Array Value) : At (w.alloc (.cells cs t)) w.heap.size t cs := heap_alloc_new w _
theorem At.kept {w w' : World} {g : Nat} {t : TypeId} {cs : Array Value} {row : Option Nat} (h : At w g t cs) (hg : w.grownBy w' row) (hne : some g ≠ row) : At w' g t cs := (hg.block g h.lt hne).trans h
theorem At.below {w w' : World} {g B : Nat} {t : TypeId} {cs : Array Value} (h : At w g t cs) (hb : Below B w w') (hg : g < B) : At w' g t cs := (hb.block g hg).trans h
theorem At.set {w : World} {g : Nat} {t : TypeId} {cs : Array Value} (h : At w g t cs) (i : Nat) (u : Value) : At (w.setCell ⟨g, i, none⟩ u) g t (cs.setIfInBounds i u) := by
  unfold At at h ⊢
  simp [World.setCell, Array.getElem?_modify, h]

theorem turn_refl (w : World) (row : Option Nat) : w.grownBy w row := ⟨rfl, rfl, rfl, Nat.le_refl _, fun _ _ _ => rfl⟩
theorem turn_drewN (w : World) (n : Nat) (row : Option Nat) : w.grownBy (w.drewN n) row := ⟨rfl, rfl, rfl, Nat.le_refl _, fun _ _ _ => rfl⟩
theorem turn_set (w : World) (g i : Nat) (u : Value) : w.grownBy (w.setCell ⟨g, i, none⟩ u) (some g) :=
  ⟨rfl, rfl, rfl, by simp [World.setCell], fun k _ hne => Below.heap_setCell w ⟨g, i, none⟩ u k (fun e => hne (by rw [e]))⟩
theorem turn_below {w w' : World} (h : Below w.heap.size w w') (row : Option Nat) : w.grownBy w' row := ⟨h.os, h.tape, h.output, h.size, fun i hi _ => h.block i hi⟩
theorem Bytes.kept {w w' : World} {B : Nat} {A : Option Addr} {l : List Nat} {row : Option Nat} (h : Bytes w B A l) (hg : w.grownBy w' row) (hB : B ≤ w.heap.size) (hr : ∀ k, row = some k → B ≤ k) : Bytes w' B A l :=
  h.below ((Below.refl B w).grown hg hB hr)

/-- the first error stays. -/
def stopE (e f : Nat) : Nat := if e = 0 then f else e
theorem stop_zero (f : Nat) : stopE 0 f = f := if_pos rfl
theorem stop_some {e : Nat} (h : e ≠ 0) (f : Nat) : stopE e f = e := if_neg h
/-- the number that stands ahead, what is behind it, and the error. -/
def numV : List Nat → Nat
  | [] => 0
  | x :: r => if form x r = true ∧ x ≤ r.length then val (r.take x) else 0
def numL : List Nat → List Nat
  | [] => []
  | x :: r => if form x r = true ∧ x ≤ r.length then r.drop x else []
def numE : List Nat → Nat
  | [] => 2
  | x :: r => if form x r = true then (if x ≤ r.length then 0 else 2) else 4
def uptoV (m : Nat) (l : List Nat) : Nat := if m < numV l then 0 else numV l
def uptoL (m : Nat) (l : List Nat) : List Nat := if m < numV l then [] else numL l
def uptoE (m : Nat) (l : List Nat) (e : Nat) : Nat := if m < numV l then stopE (stopE e (numE l)) 4 else stopE e (numE l)
def takeV (k : Nat) (l : List Nat) : List Nat := if k ≤ l.length then l.take k else []
def takeL (k : Nat) (l : List Nat) : List Nat := if k ≤ l.length then l.drop k else []
def takeE (k : Nat) (l : List Nat) (e : Nat) : Nat := if k ≤ l.length then e else stopE e 2
def byteV : List Nat → Nat
  | [] => 0
  | x :: _ => x
def byteL : List Nat → List Nat
  | [] => []
  | _ :: r => r
def byteE (l : List Nat) (e : Nat) : Nat := if l = [] then stopE e 2 else e
def flagV (l : List Nat) : Bool := decide (byteV l = 1)
def flagL (l : List Nat) : List Nat := if byteV l ≤ 1 then byteL l else []
def flagE (l : List Nat) (e : Nat) : Nat := if byteV l ≤ 1 then byteE l e else stopE (byteE l e) 4
def textV (m : Int) (l : List Nat) : List Nat := if m.toNat < numV l then [] else takeV (numV l) (numL l)
def textL (m : Int) (l : List Nat) : List Nat := if m.toNat < numV l then [] else takeL (numV l) (numL l)
def textE (m : Int) (l : List Nat) (e : Nat) : Nat := if m.toNat < numV l then stopE (stopE e (numE l)) 3 else takeE (numV l) (numL l) (stopE e (numE l))
def endE (l : List Nat) (e : Nat) : Nat := if l = [] then e else stopE e 4

theorem numV_cons (x : Nat) (r : List Nat) : numV (x :: r) = if form x r = true ∧ x ≤ r.length then val (r.take x) else 0 := rfl
theorem numL_cons (x : Nat) (r : List Nat) : numL (x :: r) = if form x r = true ∧ x ≤ r.length then r.drop x else [] := rfl
theorem numE_cons (x : Nat) (r : List Nat) : numE (x :: r) = if form x r = true then (if x ≤ r.length then 0 else 2) else 4 := rfl
theorem what_num {x : Nat} {r : List Nat} {a v y f : Nat} (h : What x r a v y f) : numV (x :: r) = v ∧ numE (x :: r) = f ∧ (f = 0 → form x r = true ∧ x ≤ r.length ∧ y = a + 1 + x ∧ numL (x :: r) = r.drop x) ∧ (f ≠ 0 → v = 0 ∧ numL (x :: r) = []) := by
  rw [numV_cons, numE_cons, numL_cons]
  cases h with
  | form h => simp [h]
  | short h hl =>
    have : ¬ x ≤ r.length := by omega
    simp [h, this]
  | ok h hl => simp [h, hl]
theorem numV_lt {l : List Nat} (hs : Small l) : numV l < 18446744073709551616 := by
  cases l with
  | nil => decide
  | cons x r =>
    rw [numV_cons]
    by_cases h : form x r = true ∧ x ≤ r.length
    · rw [if_pos h]
      have hx : x ≤ 8 := (form_true h.1).1
      have h1 := val_lt (small_take (fun y hy => hs y (List.mem_cons_of_mem _ hy) : Small r) x)
      have h2 : 256 ^ (r.take x).length ≤ 256 ^ 8 := Nat.pow_le_pow_right (by decide) (by rw [List.length_take]; omega)
      exact Nat.lt_of_lt_of_le h1 h2
    · rw [if_neg h]; decide
theorem numE_le (l : List Nat) : numE l ≤ 4 := by
  cases l with
  | nil => decide
  | cons x r =>
    rw [numE_cons]
    split
    · split <;> omega
    · omega
theorem numL_bad {l : List Nat} (h : numE l ≠ 0) : numL l = [] ∧ numV l = 0 := by
  cases l with
  | nil => exact ⟨rfl, rfl⟩
  | cons x r =>
    have hn : ¬ (form x r = true ∧ x ≤ r.length) := by
      rintro ⟨a, b⟩
      exact h (by rw [numE_cons, if_pos a, if_pos b])
    rw [numL_cons, numV_cons, if_neg hn, if_neg hn]
    exact ⟨rfl, rfl⟩
theorem byteV_lt {l : List Nat} (hs : Small l) : byteV l < 256 := by
  cases l with
  | nil => decide
  | cons x r => exact hs x List.mem_cons_self
end Go.Proofs.YtblgbbpbhcaodaaGreat.Nu

/- The contracts of the document's Put and Sort of layer dot. Put: for every list of at most 2^42 dots. -/
namespace Go.Proofs.YtblgbbpbhcaodaaGreat.Dt
open Go.ChangeShapes Go.WideShapes Go.ChangeAt Go.RowKit
set_option linter.unusedVariables false

theorem bel_alloc {w W : World} (o : Obj) (h : Below w.heap.size w W) : Below w.heap.size w (W.alloc o) := h.alloc h.size o
/-- what a round of Put knows: the dots so far, of one's own; the world. -/
def PRel (w1 : World) (n : Nat) (f : Nat → List Dot) (v i : Value) (wr : World) : Prop :=
  ∃ k m A c, k ≤ n ∧ i = .int .i64 ((k : Nat) : Int) ∧ v = .slice A m c ∧ (f k).length = m ∧ wr.ownsRow w1.heap.size 39 2 (.slice A m c) m (dv (f k)) ∧ Below w1.heap.size w1 wr
theorem p_rel {w1 wr : World} {n k m c : Nat} {A : Option Addr} {f : Nat → List Dot} {o : List Dot} (hk : k < n) (hs : f (k + 1) = o) (hm : o.length = m) (ho : wr.ownsRow w1.heap.size 39 2 (.slice A m c) m (dv o)) (hb : Below w1.heap.size w1 wr) : PRel w1 n f (.slice A m c) (.int .i64 ((k : Int) + 1)) wr :=
  ⟨k + 1, m, A, c, hk, by go_num, rfl, by rw [hs]; exact hm, by rw [hs]; exact ho, hb⟩

end Go.Proofs.YtblgbbpbhcaodaaGreat.Dt

/- The contract of the document's Sort of layer dot. For every list of at most 2^42 dots. -/
namespace Go.Proofs.YtblgbbpbhcaodaaGreat.Dt
open Go.ChangeShapes Go.WideShapes Go.ChangeAt Go.RowKit
set_option linter.unusedVariables false

theorem sort_next {l : List Dot} {k : Nat} {x : Dot} (h : l[k]? = some x) : sortD (l.take (k + 1)) = putD (sortD (l.take k)) x := by
  unfold sortD
  rw [take_next h, List.foldl_append]; rfl
theorem sort_fit (l : List Dot) (h : Fit l) (k : Nat) : Fit (sortD (l.take k)) ∧ (sortD (l.take k)).length ≤ k := by
  induction k with
  | zero => exact ⟨fun r hr => (by cases hr), Nat.le_refl _⟩
  | succ k ih =>
    by_cases hk : k < l.length
    · have hg := List.getElem?_eq_getElem hk
      rw [sort_next hg]
      exact ⟨fit_put ih.1 (h _ (List.getElem_mem hk)), Nat.le_trans (put_length _ _) (by omega)⟩
    · have e : l.take (k + 1) = l.take k := by rw [List.take_of_length_le (by omega), List.take_of_length_le (by omega)]
      rw [e]
      exact ⟨ih.1, by omega⟩
/-! The document's list of a list: its dots, each once, in order. Plain arithmetic. -/
theorem ahead_trans {a b c : Dot} (h1 : aheadD a b = true) (h2 : aheadD b c = true) : aheadD a c = true := by
  rw [ahead_iff] at *; omega
theorem ahead_not {a b : Dot} (h1 : aheadD a b = true) : aheadD b a = false := by
  cases h : aheadD b a with
  | false => rfl
  | true => rw [ahead_iff] at *; omega
theorem ahead_irr (a : Dot) : aheadD a a = false := by
  cases h : aheadD a a with
  | false => rfl
  | true => rw [ahead_iff] at h; omega
theorem ahead_all {a b : Dot} (h1 : aheadD a b = false) (h2 : a ≠ b) : aheadD b a = true := by
  rw [ahead_iff]
  have h3 : ¬ (a.1 < b.1 ∨ (a.1 = b.1 ∧ a.2 < b.2)) := fun h' => by rw [(ahead_iff a b).2 h'] at h1; exact absurd h1 (by simp)
  have h4 : ¬ (a.1 = b.1 ∧ a.2 = b.2) := fun h' => h2 (Prod.ext h'.1 h'.2)
  omega
/-- each one ahead of all behind it. -/
def Ord (l : List Dot) : Prop := l.Pairwise (fun a b => aheadD a b = true)
theorem put_mem (l : List Dot) (d x : Dot) : x ∈ putD l d ↔ x = d ∨ x ∈ l := by
  unfold putD
  simp only [List.mem_append, List.mem_filter, List.mem_singleton]
  constructor
  · rintro ((h | h) | h)
    · exact .inr h.1
    · exact .inl h
    · exact .inr h.1
  · rintro (h | h)
    · exact .inl (.inr h)
    · by_cases h1 : aheadD x d = true
      · exact .inl (.inl ⟨h, h1⟩)
      · by_cases h2 : x = d
        · exact .inl (.inr h2)
        · exact .inr ⟨h, ahead_all (by simpa using h1) h2⟩
theorem put_ord {l : List Dot} (d : Dot) (h : Ord l) : Ord (putD l d) := by
  unfold putD Ord
  rw [List.pairwise_append, List.pairwise_append]
  refine ⟨⟨h.filter _, List.pairwise_singleton _ _, ?_⟩, h.filter _, ?_⟩
  · intro a ha b hb
    rw [List.mem_singleton.1 hb]
    exact (List.mem_filter.1 ha).2
  · intro a ha b hb
    have hb2 := (List.mem_filter.1 hb).2
    rcases List.mem_append.1 ha with ha | ha
    · exact ahead_trans (List.mem_filter.1 ha).2 hb2
    · rw [List.mem_singleton.1 ha]; exact hb2
theorem sort_from (l m : List Dot) (h : Ord m) : Ord (l.foldl putD m) ∧ ∀ x, x ∈ l.foldl putD m ↔ x ∈ m ∨ x ∈ l := by
  induction l generalizing m with
  | nil => exact ⟨h, fun x => by simp⟩
  | cons d l ih =>
    obtain ⟨h1, h2⟩ := ih (putD m d) (put_ord d h)
    refine ⟨h1, fun x => ?_⟩
    rw [List.foldl_cons, h2, put_mem, List.mem_cons]
    constructor
    · rintro ((h | h) | h)
      · exact .inr (.inl h)
      · exact .inl h
      · exact .inr (.inr h)
    · rintro (h | h | h)
      · exact .inl (.inr h)
      · exact .inl (.inl h)
      · exact .inr h
theorem sort_ord (l : List Dot) : Ord (sortD l) := (sort_from l [] List.Pairwise.nil).1
theorem sort_mem (l : List Dot) (x : Dot) : x ∈ sortD l ↔ x ∈ l := by rw [show sortD l = l.foldl putD [] from rfl, (sort_from l [] List.Pairwise.nil).2]; simp
/-- two lists in order with the same dots are the same. -/
theorem ord_uniq {l m : List Dot} (hl : Ord l) (hm : Ord m) (h : ∀ x, x ∈ l ↔ x ∈ m) : l = m := by
  induction l generalizing m with
  | nil =>
    cases m with
    | nil => rfl
    | cons b m => exact absurd ((h b).2 (List.mem_cons_self ..)) (by simp)
  | cons a l ih =>
    cases m with
    | nil => exact absurd ((h a).1 (List.mem_cons_self ..)) (by simp)
    | cons b m =>
      obtain ⟨hl1, hl2⟩ := List.pairwise_cons.1 hl
      obtain ⟨hm1, hm2⟩ := List.pairwise_cons.1 hm
      have hab : a = b := by
        rcases List.mem_cons.1 ((h a).1 (List.mem_cons_self ..)) with h1 | h1
        · exact h1
        · rcases List.mem_cons.1 ((h b).2 (List.mem_cons_self ..)) with h2 | h2
          · exact h2.symm
          · have h3 := hm1 a h1
            have h4 := hl1 b h2
            rw [ahead_not h3] at h4
            exact absurd h4 (by simp)
      subst hab
      congr 1
      refine ih hl2 hm2 fun x => ?_
      constructor
      · intro hx
        rcases List.mem_cons.1 ((h x).1 (List.mem_cons_of_mem _ hx)) with h1 | h1
        · have h2 := hl1 x hx
          rw [h1, ahead_irr] at h2
          exact absurd h2 (by simp)
        · exact h1
      · intro hx
        rcases List.mem_cons.1 ((h x).2 (List.mem_cons_of_mem _ hx)) with h1 | h1
        · have h2 := hm1 x hx
          rw [h1, ahead_irr] at h2
          exact absurd h2 (by simp)
        · exact h1
theorem sort_uniq {l m : List Dot} (hm : Ord m) (h : ∀ x, x ∈ m ↔ x ∈ l) : m = sortD l :=
  ord_uniq hm (sort_ord l) (fun x => by rw [h, sort_mem])
theorem rise_ord (l : List Dot) : riseB l = true ↔ Ord l := by
  induction l with
  | nil => simp [riseB, Ord]
  | cons a l ih =>
    cases l with
    | nil => simp [riseB, Ord]
    | cons b l =>
      rw [show riseB (a :: b :: l) = (aheadD a b && riseB (b :: l)) from rfl, Bool.and_eq_true, ih]
      unfold Ord
      rw [List.pairwise_cons (a := a)]
      constructor
      · rintro ⟨h1, h2⟩
        refine ⟨fun x hx => ?_, h2⟩
        rcases List.mem_cons.1 hx with rfl | hx
        · exact h1
        · exact ahead_trans h1 ((List.pairwise_cons.1 h2).1 x hx)
      · rintro ⟨h1, h2⟩
        exact ⟨h1 b (List.mem_cons_self ..), h2⟩
/-- a list in order is its own sorting. -/
theorem sort_same {l : List Dot} (h : Ord l) : sortD l = l := (sort_uniq h (fun x => Iff.rfl)).symm

/-! Numbers of dots. -/
def numD (d : Dot) : Nat := d.1 * 281474976710656 + d.2 % 281474976710656
theorem num_order {a b : Dot} (ha : mayD a = true) (hb : mayD b = true) : numD a < numD b ↔ aheadD a b = true := by
  rw [may_iff] at ha hb
  rw [ahead_iff]
  unfold numD
  omega
theorem num_one {a b : Dot} (ha : mayD a = true) (hb : mayD b = true) : numD a = numD b ↔ a = b := by
  rw [may_iff] at ha hb
  constructor
  · intro h
    unfold numD at h
    exact Prod.ext (by omega) (by omega)
  · rintro rfl; rfl
theorem unpack_num {d : Dot} (h : mayD d = true) (h1 : d.1 < 65536) : unpackD (numD d) = (d, true) := by
  have h2 := (may_iff d).1 h
  have e : splitD (numD d) = d := by unfold splitD numD; exact Prod.ext (by show _ / _ = _; omega) (by show _ % _ = _; omega)
  unfold unpackD
  rw [e, if_pos h]
end Go.Proofs.YtblgbbpbhcaodaaGreat.Dt

/- Dots and contexts as bytes, and what a reader makes of any bytes. Plain: nothing is asked of a program. -/
namespace Go.Proofs.YtblgbbpbhcaodaaGreat.Dc
open Go.ChangeShapes Go.WideShapes Go.ChangeAt Go.RowKit
set_option linter.unusedVariables false

abbrev Dot := Dt.Dot
/-- numbers that fit 64 bits. -/
abbrev big : Nat := 18446744073709551616

/-! ### Written -/
def dotB (d : Dot) : List Nat := Nu.enc d.1 ++ Nu.enc d.2
/-- of any dots those that may be, in order, each once. -/
def someD (l : List Dot) : List Dot := Dt.sortD (l.filter Dt.mayD)
def dotsB (l : List Dot) : List Nat := Nu.enc l.length ++ l.flatMap dotB
theorem dotB_small (d : Dot) : Nu.Small (dotB d) := Nu.small_append (Nu.enc_small _) (Nu.enc_small _)
theorem small_flat {α : Type} {f : α → List Nat} (h : ∀ x, Nu.Small (f x)) (l : List α) : Nu.Small (l.flatMap f) := fun x hx => by
  obtain ⟨y, _, h2⟩ := List.mem_flatMap.1 hx
  exact h y x h2
theorem dotsB_small (l : List Dot) : Nu.Small (dotsB l) := Nu.small_append (Nu.enc_small _) (small_flat dotB_small l)
theorem enc_le (v : Nat) : (Nu.enc v).length ≤ 9 := by rw [Nu.enc_length]; have := Nu.blen_le v; omega
theorem flat_le {α : Type} {f : α → List Nat} {k : Nat} (h : ∀ x, (f x).length ≤ k) (l : List α) : (l.flatMap f).length ≤ l.length * k := by
  induction l with
  | nil => simp
  | cons x l ih =>
    have := h x
    rw [List.flatMap_cons, List.length_append, List.length_cons, Nat.add_mul]
    omega
theorem dotB_le (d : Dot) : (dotB d).length ≤ 18 := by unfold dotB; rw [List.length_append]; have := enc_le d.1; have := enc_le d.2; omega
theorem flat_snoc {α : Type} {f : α → List Nat} {l : List α} {k : Nat} {x : α} (h : l[k]? = some x) : (l.take (k + 1)).flatMap f = (l.take k).flatMap f ++ f x := by
  rw [List.take_add_one, h, List.flatMap_append]
  simp

/-! ### Read -/
/-- what is left to a reader, and the first error. -/
abbrev St := List Nat × Nat
def numN (s : St) : Nat := Nu.numV s.1
def numS (s : St) : St := (Nu.numL s.1, Nu.stopE s.2 (Nu.numE s.1))
def uptoN (m : Nat) (s : St) : Nat := Nu.uptoV m s.1
def uptoS (m : Nat) (s : St) : St := (Nu.uptoL m s.1, Nu.uptoE m s.1 s.2)
def failS (f : Nat) (s : St) : St := ([], Nu.stopE s.2 f)
/-- with an error nothing is left. -/
def Sound (s : St) : Prop := s.2 ≠ 0 → s.1 = []
theorem stop_ne {e f : Nat} (h : f ≠ 0) : Nu.stopE e f ≠ 0 := by
  unfold Nu.stopE; split
  · exact h
  · assumption
theorem stop_nz {e f : Nat} (h : e ≠ 0) : Nu.stopE e f = e := Nu.stop_some h f
theorem stop_iff {e f : Nat} : Nu.stopE e f = 0 ↔ e = 0 ∧ f = 0 := by
  unfold Nu.stopE; split <;> omega
theorem fail_sound (f : Nat) (s : St) : Sound (failS f s) := fun _ => rfl
theorem num_sound {s : St} (h : Sound s) : Sound (numS s) := fun hn => by
  show Nu.numL s.1 = []
  by_cases he : s.2 = 0
  · have h2 : Nu.numE s.1 ≠ 0 := fun e => hn (stop_iff.2 ⟨he, e⟩)
    exact (Nu.numL_bad h2).1
  · rw [h he]; rfl
theorem upto_sound {m : Nat} {s : St} (h : Sound s) : Sound (uptoS m s) := fun hn => by
  show Nu.uptoL m s.1 = []
  unfold Nu.uptoL
  by_cases hm : m < Nu.numV s.1
  · rw [if_pos hm]
  · rw [if_neg hm]
    have h2 : (uptoS m s).2 = (numS s).2 := by show Nu.uptoE m s.1 s.2 = _; unfold Nu.uptoE; rw [if_neg hm]; rfl
    rw [h2] at hn
    exact num_sound h hn
theorem small_numL {l : List Nat} (h : Nu.Small l) : Nu.Small (Nu.numL l) := by
  cases l with
  | nil => exact h
  | cons x r =>
    rw [Nu.numL_cons]
    split
    · exact Nu.small_drop (fun y hy => h y (List.mem_cons_of_mem _ hy)) x
    · intro y hy; cases hy
theorem num_small {s : St} (h : Nu.Small s.1) : Nu.Small (numS s).1 := small_numL h
theorem upto_small {m : Nat} {s : St} (h : Nu.Small s.1) : Nu.Small (uptoS m s).1 := by
  show Nu.Small (Nu.uptoL m s.1)
  unfold Nu.uptoL
  split
  · intro y hy; cases hy
  · exact small_numL h
theorem num_shorter (l : List Nat) : (Nu.numL l).length ≤ l.length ∧ (Nu.numE l = 0 → (Nu.numL l).length < l.length) := by
  cases l with
  | nil => exact ⟨Nat.le_refl _, fun h => by cases h⟩
  | cons x r =>
    rw [Nu.numL_cons]
    split
    · rw [List.length_drop, List.length_cons]; exact ⟨by omega, fun _ => by omega⟩
    · rw [List.length_nil, List.length_cons]; exact ⟨by omega, fun _ => by omega⟩
theorem numS_len (s : St) : (numS s).1.length ≤ s.1.length := (num_shorter s.1).1
theorem numS_ok {s : St} (h : (numS s).2 = 0) : s.2 = 0 ∧ Nu.numE s.1 = 0 ∧ (numS s).1.length < s.1.length := by
  have h1 := stop_iff.1 h
  exact ⟨h1.1, h1.2, (num_shorter s.1).2 h1.2⟩
theorem uptoS_len (m : Nat) (s : St) : (uptoS m s).1.length ≤ s.1.length := by
  show (Nu.uptoL m s.1).length ≤ _
  unfold Nu.uptoL
  split
  · simp
  · exact (num_shorter s.1).1
theorem uptoS_ok {m : Nat} {s : St} (h : (uptoS m s).2 = 0) : s.2 = 0 ∧ Nu.numV s.1 ≤ m ∧ uptoS m s = numS s ∧ uptoN m s = numN s := by
  have hm : ¬ m < Nu.numV s.1 := fun hm => by
    have h2 : (uptoS m s).2 = Nu.stopE (Nu.stopE s.2 (Nu.numE s.1)) 4 := by show Nu.uptoE m s.1 s.2 = _; unfold Nu.uptoE; rw [if_pos hm]
    rw [h2] at h
    exact stop_ne (by decide) h
  have e1 : uptoS m s = numS s := by
    show (Nu.uptoL m s.1, Nu.uptoE m s.1 s.2) = _
    unfold Nu.uptoL Nu.uptoE
    rw [if_neg hm, if_neg hm]
    rfl
  refine ⟨?_, by omega, e1, ?_⟩
  · rw [e1] at h; exact (numS_ok h).1
  · show Nu.uptoV m s.1 = _
    unfold Nu.uptoV
    rw [if_neg hm]; rfl
theorem uptoN_le (m : Nat) (s : St) : uptoN m s ≤ m := by
  show Nu.uptoV m s.1 ≤ m
  unfold Nu.uptoV
  split <;> omega
/-- a number stands there in its only form. -/
theorem num_in {l : List Nat} (hs : Nu.Small l) (h : Nu.numE l = 0) : l = Nu.enc (Nu.numV l) ++ Nu.numL l ∧ Nu.numV l < big := by
  refine ⟨?_, Nu.numV_lt hs⟩
  cases l with
  | nil => cases h
  | cons x r =>
    rw [Nu.numE_cons] at h
    by_cases hf : Nu.form x r = true
    · rw [if_pos hf] at h
      by_cases hl : x ≤ r.length
      · rw [Nu.numV_cons, Nu.numL_cons, if_pos ⟨hf, hl⟩, if_pos ⟨hf, hl⟩]
        obtain ⟨h8, hz⟩ := Nu.form_true hf
        have hst : Nu.Small (r.take x) := Nu.small_take (fun z hz => hs z (List.mem_cons_of_mem _ hz)) x
        obtain ⟨e1, _⟩ := Nu.enc_val (n := x) (t := r.take x) h8 (by rw [List.length_take]; omega) hst (fun z hz' => by
          rcases hz with h | h
          · subst h; simp at hz'
          · intro h'; subst h'
            apply h
            rw [List.getElem?_take] at hz'
            split at hz'
            · exact hz'
            · cases hz')
        rw [e1, List.cons_append, List.take_append_drop]
      · rw [if_neg hl] at h; cases h
    · rw [if_neg hf] at h; cases h
theorem numS_in {s : St} (hs : Nu.Small s.1) (h : (numS s).2 = 0) : s.1 = Nu.enc (numN s) ++ (numS s).1 ∧ numN s < big := num_in hs (numS_ok h).2.1
/-- what was written is read. -/
theorem num_back {v : Nat} (hv : v < big) (r : List Nat) : Nu.numV (Nu.enc v ++ r) = v ∧ Nu.numL (Nu.enc v ++ r) = r ∧ Nu.numE (Nu.enc v ++ r) = 0 := by
  have ht : (Nu.dig (Nu.blen v) v ++ r).take (Nu.blen v) = Nu.dig (Nu.blen v) v := by
    have := List.take_left (l₁ := Nu.dig (Nu.blen v) v) (l₂ := r)
    rwa [Nu.dig_length] at this
  have hd : (Nu.dig (Nu.blen v) v ++ r).drop (Nu.blen v) = r := by
    have := List.drop_left (l₁ := Nu.dig (Nu.blen v) v) (l₂ := r)
    rwa [Nu.dig_length] at this
  have hf : Nu.form (Nu.blen v) (Nu.dig (Nu.blen v) v ++ r) = true := by
    refine decide_eq_true ⟨Nu.blen_le v, ?_⟩
    cases hb : Nu.blen v with
    | zero => exact .inl rfl
    | succ b =>
      have hh := Nu.dig_head hv hb
      exact .inr (by simpa [Nu.dig] using hh)
  have hl : Nu.blen v ≤ (Nu.dig (Nu.blen v) v ++ r).length := by rw [List.length_append, Nu.dig_length]; omega
  have e : Nu.enc v ++ r = Nu.blen v :: (Nu.dig (Nu.blen v) v ++ r) := rfl
  rw [e, Nu.numV_cons, Nu.numL_cons, Nu.numE_cons, if_pos ⟨hf, hl⟩, if_pos ⟨hf, hl⟩, if_pos hf, if_pos hl, ht, hd]
  exact ⟨Nu.val_enc hv, rfl, rfl⟩
theorem numS_back {v : Nat} (hv : v < big) (r : List Nat) : numN (Nu.enc v ++ r, 0) = v ∧ numS (Nu.enc v ++ r, 0) = (r, 0) := by
  obtain ⟨h1, h2, h3⟩ := num_back hv r
  refine ⟨h1, ?_⟩
  show (Nu.numL (Nu.enc v ++ r), Nu.stopE 0 (Nu.numE (Nu.enc v ++ r))) = _
  rw [h2, h3]; rfl
theorem uptoS_back {m v : Nat} (hv : v < big) (hm : v ≤ m) (r : List Nat) : uptoN m (Nu.enc v ++ r, 0) = v ∧ uptoS m (Nu.enc v ++ r, 0) = (r, 0) := by
  obtain ⟨h1, h2, h3⟩ := num_back hv r
  have hn : ¬ m < Nu.numV (Nu.enc v ++ r) := by rw [h1]; omega
  refine ⟨?_, ?_⟩
  · show Nu.uptoV m (Nu.enc v ++ r) = v
    unfold Nu.uptoV
    rw [if_neg hn]; exact h1
  · show (Nu.uptoL m (Nu.enc v ++ r), Nu.uptoE m (Nu.enc v ++ r) 0) = _
    unfold Nu.uptoL Nu.uptoE
    rw [if_neg hn, if_neg hn, h2, h3]; rfl

/-! ### Dots -/
/-- the dot whose numbers stand there. -/
def dotN (s : St) : Dot := (uptoN 65535 s, numN (uptoS 65535 s))
def dotS (s : St) : St := numS (uptoS 65535 s)
def dotR (s : St) : Dot × St := if (dotS s).2 = 0 ∧ Dt.mayD (dotN s) = true then (dotN s, dotS s) else ((0, 0), failS 4 (dotS s))
theorem dotS_sound {s : St} (h : Sound s) : Sound (dotS s) := num_sound (upto_sound h)
theorem dotR_sound {s : St} (h : Sound s) : Sound (dotR s).2 := by
  unfold dotR
  split
  · exact dotS_sound h
  · exact fail_sound _ _
theorem dotR_ok {s : St} (h : (dotR s).2.2 = 0) : (dotS s).2 = 0 ∧ Dt.mayD (dotN s) = true ∧ dotR s = (dotN s, dotS s) := by
  unfold dotR at h ⊢
  by_cases hc : (dotS s).2 = 0 ∧ Dt.mayD (dotN s) = true
  · rw [if_pos hc]; exact ⟨hc.1, hc.2, rfl⟩
  · rw [if_neg hc] at h
    exact absurd h (stop_ne (by decide))
theorem dotR_bad {s : St} (h : (dotR s).2.2 ≠ 0) : (dotR s).1 = (0, 0) := by
  unfold dotR at h ⊢
  by_cases hc : (dotS s).2 = 0 ∧ Dt.mayD (dotN s) = true
  · rw [if_pos hc] at h; exact absurd hc.1 h
  · rw [if_neg hc]
theorem dotR_small {s : St} (h : Nu.Small s.1) : Nu.Small (dotR s).2.1 := by
  unfold dotR
  split
  · exact num_small (upto_small h)
  · intro x hx; cases hx
theorem dotN_fit {s : St} (h : Nu.Small s.1) : (dotN s).1 < 65536 ∧ (dotN s).2 < big := ⟨by have := uptoN_le 65535 s; show uptoN 65535 s < 65536; omega, Nu.numV_lt (upto_small h)⟩
theorem dotR_fit {s : St} (h : Nu.Small s.1) : (dotR s).1.1 < 65536 ∧ (dotR s).1.2 < big := by
  unfold dotR
  split
  · exact dotN_fit h
  · exact ⟨show (0 : Nat) < 65536 by decide, show (0 : Nat) < big by decide⟩
theorem dotR_len (s : St) : (dotR s).2.1.length ≤ s.1.length ∧ ((dotR s).2.2 = 0 → (dotR s).2.1.length + 2 ≤ s.1.length) := by
  have h1 := numS_len (uptoS 65535 s)
  have h2 := uptoS_len 65535 s
  refine ⟨?_, fun h => ?_⟩
  · unfold dotR
    split
    · show (numS (uptoS 65535 s)).1.length ≤ _; omega
    · show ([] : List Nat).length ≤ _; simp
  · obtain ⟨g1, _, g3⟩ := dotR_ok h
    rw [g3]
    have k1 := numS_ok g1
    have k2 := uptoS_ok k1.1
    have k3 := k2.2.2.1 ▸ k1.1
    have k4 := numS_ok k3
    rw [k2.2.2.1] at k1
    show (numS (uptoS 65535 s)).1.length + 2 ≤ _
    rw [k2.2.2.1]
    omega
theorem dot_back {d : Dot} (hm : Dt.mayD d = true) (hd : d.1 < 65536) (hn : d.2 < big) (r : List Nat) : dotR (dotB d ++ r, 0) = (d, (r, 0)) := by
  have e : dotB d ++ r = Nu.enc d.1 ++ (Nu.enc d.2 ++ r) := by unfold dotB; rw [List.append_assoc]
  have hb1 : d.1 < big := by show d.1 < 18446744073709551616; omega
  obtain ⟨h1, h2⟩ := uptoS_back (m := 65535) hb1 (by omega) (Nu.enc d.2 ++ r)
  obtain ⟨h3, h4⟩ := numS_back hn r
  have hN : dotN (dotB d ++ r, 0) = d := by
    unfold dotN
    rw [e, h1, h2, h3]
  have hS : dotS (dotB d ++ r, 0) = (r, 0) := by
    unfold dotS
    rw [e, h2, h4]
  unfold dotR
  rw [hN, hS, if_pos ⟨rfl, hm⟩]
theorem dot_in {s : St} (hs : Nu.Small s.1) (h : (dotR s).2.2 = 0) : s.2 = 0 ∧ s.1 = dotB (dotR s).1 ++ (dotR s).2.1 ∧ Dt.mayD (dotR s).1 = true := by
  obtain ⟨h1, h2, h3⟩ := dotR_ok h
  have h4 := numS_ok h1
  have h5 := uptoS_ok h4.1
  have h6 := h5.2.2.1 ▸ h4.1
  obtain ⟨a1, _⟩ := numS_in hs h6
  obtain ⟨b1, _⟩ := numS_in (upto_small (m := 65535) hs) h1
  rw [h3]
  refine ⟨h5.1, ?_, h2⟩
  show s.1 = (Nu.enc (uptoN 65535 s) ++ Nu.enc (numN (uptoS 65535 s))) ++ (numS (uptoS 65535 s)).1
  rw [List.append_assoc, ← b1, h5.2.2.1, h5.2.2.2]
  exact a1

/-- does a dot stand behind the last one? -/
def stepsB (o : List Dot) (d : Dot) : Bool := match o.getLast? with | none => true | some x => Dt.aheadD x d
def dotsS (o : List Dot) (s : St) : St := if (dotR s).2.2 = 0 ∧ stepsB o (dotR s).1 = false then failS 4 (dotR s).2 else (dotR s).2
def dotsL : Nat → List Dot → St → List Dot × St
  | 0, o, s => (o, s)
  | k + 1, o, s => if s.2 = 0 then dotsL k (o ++ [(dotR s).1]) (dotsS o s) else (o, s)
def dotsF (most : Nat) (s : St) : St := if most < numN s then failS 3 (numS s) else numS s
def dotsR (most : Nat) (s : St) : List Dot × St := if (dotsL (numN s) [] (dotsF most s)).2.2 = 0 then dotsL (numN s) [] (dotsF most s) else ([], (dotsL (numN s) [] (dotsF most s)).2)
theorem dotsS_sound {o : List Dot} {s : St} (h : Sound s) : Sound (dotsS o s) := by
  unfold dotsS
  split
  · exact fail_sound _ _
  · exact dotR_sound h
theorem dotsF_sound {most : Nat} {s : St} (h : Sound s) : Sound (dotsF most s) := by
  unfold dotsF
  split
  · exact fail_sound _ _
  · exact num_sound h
theorem dotsL_bad {k : Nat} {o : List Dot} {s : St} (h : s.2 ≠ 0) : dotsL k o s = (o, s) := by
  cases k with
  | zero => rfl
  | succ k => unfold dotsL; rw [if_neg h]
theorem dotsL_sound : ∀ (k : Nat) (o : List Dot) (s : St), Sound s → Sound (dotsL k o s).2
  | 0, o, s, h => h
  | k + 1, o, s, h => by
    unfold dotsL
    split
    · exact dotsL_sound k _ _ (dotsS_sound h)
    · exact h
theorem dots_loop : ∀ (q o : List Dot) (r : List Nat), (∀ x ∈ q, Dt.mayD x = true ∧ x.1 < 65536 ∧ x.2 < big) → Dt.Ord (o ++ q) → dotsL q.length o (q.flatMap dotB ++ r, 0) = (o ++ q, (r, 0))
  | [], o, r, _, _ => by simp [dotsL]
  | d :: q, o, r, hq, ho => by
    have hd := hq d (List.mem_cons_self ..)
    have e : (d :: q).flatMap dotB ++ r = dotB d ++ (q.flatMap dotB ++ r) := by rw [List.flatMap_cons, List.append_assoc]
    have hr := dot_back hd.1 hd.2.1 hd.2.2 (q.flatMap dotB ++ r)
    have hs : stepsB o d = true := by
      unfold stepsB
      cases hg : o.getLast? with
      | none => rfl
      | some x =>
        have hx : x ∈ o := List.mem_of_getLast? hg
        have h2 := (List.pairwise_append.1 ho).2.2 x hx d (List.mem_cons_self ..)
        exact h2
    show dotsL (q.length + 1) o _ = _
    unfold dotsL
    rw [e, if_pos rfl]
    unfold dotsS
    rw [hr, hs]
    simp only [Bool.true_eq_false, and_false, if_false]
    have ih := dots_loop q (o ++ [d]) r (fun x hx => hq x (List.mem_cons_of_mem _ hx)) (by rw [List.append_assoc]; exact ho)
    rw [ih, List.append_assoc]
    rfl
theorem dots_back {l : List Dot} {most : Nat} (hl : ∀ x ∈ l, Dt.mayD x = true ∧ x.1 < 65536 ∧ x.2 < big) (ho : Dt.Ord l) (hm : l.length ≤ most) (hb : l.length < big) (r : List Nat) : dotsR most (dotsB l ++ r, 0) = (l, (r, 0)) := by
  have e : dotsB l ++ r = Nu.enc l.length ++ (l.flatMap dotB ++ r) := by unfold dotsB; rw [List.append_assoc]
  obtain ⟨h1, h2⟩ := numS_back hb (l.flatMap dotB ++ r)
  have hF : dotsF most (dotsB l ++ r, 0) = (l.flatMap dotB ++ r, 0) := by
    unfold dotsF
    rw [e, h1, h2, if_neg (by omega)]
  unfold dotsR
  rw [hF, e, h1, dots_loop l [] r hl (by simpa using ho)]
  rfl
theorem some_self {l : List Dot} (hl : ∀ x ∈ l, Dt.mayD x = true) (ho : Dt.Ord l) : someD l = l := by
  unfold someD
  rw [List.filter_eq_self.2 hl, Dt.sort_same ho]

/-! ### Contexts -/
def endN (s : St) : Nat := Nu.endE s.1 s.2
theorem end_nil : endN ([], 0) = 0 := rfl
theorem end_more {l : List Nat} (h : l ≠ []) : endN (l, 0) = 4 := by
  show Nu.endE l 0 = 4
  unfold Nu.endE
  rw [if_neg h]; rfl
theorem end_zero {s : St} (hs : Sound s) (h : endN s = 0) : s = ([], 0) := by
  obtain ⟨l, e⟩ := s
  have h' : Nu.endE l e = 0 := h
  unfold Nu.endE at h'
  by_cases hl : l = []
  · rw [if_pos hl] at h'
    rw [hl, h']
  · rw [if_neg hl] at h'
    exact absurd h' (stop_ne (by decide))
/-! ### How long -/
theorem dotsB_len (l : List Dot) : (dotsB l).length ≤ 9 + l.length * 18 := by
  have h1 := flat_le (f := dotB) (k := 18) dotB_le l
  have h2 := enc_le l.length
  unfold dotsB
  rw [List.length_append]
  omega
theorem some_len (l : List Dot) : (someD l).length ≤ l.length := by
  have h1 : ∀ (l m : List Dot), (l.foldl Dt.putD m).length ≤ m.length + l.length := by
    intro l
    induction l with
    | nil => intro m; simp
    | cons x l ih =>
      intro m
      have h2 := ih (Dt.putD m x)
      have h3 := Dt.put_length m x
      rw [List.foldl_cons, List.length_cons]
      omega
  have h2 := h1 (l.filter Dt.mayD) []
  have h3 : (l.filter Dt.mayD).length ≤ l.length := List.length_filter_le _ _
  unfold someD Dt.sortD
  simp only [List.length_nil, Nat.zero_add] at h2
  omega
end Go.Proofs.YtblgbbpbhcaodaaGreat.Dc

/- The contracts of the document's Sort and Dots of layer event. For every list of at most 2^40 events (Sort); of at most 30 events with at most 300 kills each (Dots: more would do). -/
namespace Go.Proofs.YtblgbbpbhcaodaaGreat.Ev
open Go.ChangeShapes Go.WideShapes Go.ChangeAt Go.RowKit
set_option linter.unusedVariables false
set_option maxRecDepth 4000

noncomputable def sortE (l : List Evt) : List Evt := l.foldl putE []
theorem take_one {α : Type} {l : List α} {k : Nat} {x : α} (h : l[k]? = some x) : l.take (k + 1) = l.take k ++ [x] := by rw [List.take_add_one, h]; rfl
theorem sort_next {l : List Evt} {k : Nat} {x : Evt} (h : l[k]? = some x) : sortE (l.take (k + 1)) = putE (sortE (l.take k)) x := by
  unfold sortE
  rw [take_one h, List.foldl_append]; rfl
theorem put_long (l : List Evt) (e : Evt) : (putE l e).length ≤ l.length + 1 := by
  unfold putE
  have h := st_long l e l.length
  split
  · omega
  · split
    · rename_i h1
      rw [if_pos h1] at h
      exact h
    · rename_i h1
      rw [if_neg h1] at h
      rw [List.length_append]
      simp only [List.length_cons, List.length_nil]
      omega
theorem sort_long (l : List Evt) (k : Nat) : (sortE (l.take k)).length ≤ k := by
  induction k with
  | zero => exact Nat.le_refl _
  | succ k ih =>
    rcases Nat.lt_or_ge k l.length with h | h
    · rw [sort_next (List.getElem?_eq_getElem h)]
      have := put_long (sortE (l.take k)) l[k]
      omega
    · rw [List.take_of_length_le (by omega), ← List.take_of_length_le h]
      omega

/-- the dots of an event and all its kills, put. -/
def dotsOne (m : List Dt.Dot) (x : Evt) : List Dt.Dot := x.kills.foldl Dt.putD (Dt.putD m x.dot)
/-- the dots of events, and all their kills. -/
def dotsE (l : List Evt) : List Dt.Dot := l.foldl dotsOne []
def dotsTo (l : List Evt) (k : Nat) : List Dt.Dot := (l.take k).foldl dotsOne []
def killsTo (m : List Dt.Dot) (x : Evt) (j : Nat) : List Dt.Dot := (x.kills.take j).foldl Dt.putD (Dt.putD m x.dot)
theorem dots_next {l : List Evt} {k : Nat} {x : Evt} (h : l[k]? = some x) : dotsTo l (k + 1) = dotsOne (dotsTo l k) x := by
  unfold dotsTo
  rw [take_one h, List.foldl_append]; rfl
theorem kills_next {m : List Dt.Dot} {x : Evt} {j : Nat} {d : Dt.Dot} (h : x.kills[j]? = some d) : killsTo m x (j + 1) = Dt.putD (killsTo m x j) d := by
  unfold killsTo
  rw [take_one h, List.foldl_append]; rfl
theorem kills_all {m : List Dt.Dot} {x : Evt} {n : Nat} (hn : x.kills.length = n) : killsTo m x n = dotsOne m x := by
  unfold killsTo dotsOne
  rw [List.take_of_length_le (by rw [hn]; exact Nat.le_refl _)]
end Go.Proofs.YtblgbbpbhcaodaaGreat.Ev
