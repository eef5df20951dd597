/- The contracts of seal's sumOf and Seal, of slices.Grow and slices.Concat at what Seal hands them, and of the document's Seal: a new list of the kind, the body and the four bytes of their sum; nothing that was there has changed. Conditions: at most 2^47 - 4096 bytes came in; for the program's own, crc's table lies in its variable. -/
import Derived.Test.YtjipeiigcoipjaaDoorBytes
namespace Go.Proofs.YtjipeiigcoipjaaDoor.Se
open Go.ChangeShapes Go.WideShapes Go.ChangeAt Go.RowKit
set_option linter.unusedVariables false

theorem vals_set (l : List Nat) (j x : Nat) : (vals l).set j (.int .u8 (x : Int)) = vals (l.set j x) := by unfold vals; rw [List.map_set]
theorem made_four : (madeCells (#[.int .u8 0] : Array Value) 4).toList = vals (Crc.unle 0 0 ++ List.replicate 4 0) := by rw [toList_madeCells_one]; rfl
theorem four_set {k s : Nat} (hk : k < 4) : (Crc.unle k s ++ List.replicate (4 - k) 0).set k (s / 2 ^ (8 * k) % 256) = Crc.unle (k + 1) s ++ List.replicate (4 - (k + 1)) 0 := by
  rw [Crc.unle_snoc, List.set_append, if_neg (by rw [Crc.unle_length]; omega), Crc.unle_length, Nat.sub_self]
  obtain ⟨m, hm⟩ : ∃ m, 4 - k = m + 1 := ⟨4 - k - 1, by omega⟩
  have hm' : 4 - (k + 1) = m := by omega
  rw [hm, hm', List.replicate_succ, List.set_cons_zero, List.append_assoc]
  rfl

/-- what holds at each round's head: so many bytes of the sum are laid. -/
def SumRel (w : World) (s g : Nat) (v i : Value) (wr : World) : Prop :=
  ∃ k : Nat, k ≤ 4 ∧ i = .int .i64 (k : Int) ∧ v = .int .u32 ((s / 2 ^ (8 * k) : Nat) : Int) ∧ wr.ownsRow w.heap.size 5 1 (.slice (some ⟨g, 0, none⟩) 4 4) 4 (vals (Crc.unle k s ++ List.replicate (4 - k) 0)) ∧ Below w.heap.size w wr
theorem sum_step {w wr : World} {s g k : Nat} (hk : k < 4) (hg : w.heap.size ≤ g) (ho : wr.ownsRow w.heap.size 5 1 (.slice (some ⟨g, 0, none⟩) 4 4) 4 (vals (Crc.unle k s ++ List.replicate (4 - k) 0))) (hb : Below w.heap.size w wr) :
    SumRel w s g (.int .u32 (((s / 2 ^ (8 * k) : Nat) : Int) / 256)) (.int .i64 ((k : Int) + 1)) (wr.setCell ⟨g, k, none⟩ (.int .u8 ((s / 2 ^ (8 * k) % 256 : Nat) : Int))) := by
  refine ⟨k + 1, by omega, by go_num, ?_, ?_, hb.setCell hg _⟩
  · rw [Crc.next_byte]; go_num
  · have := (ho.stored k (.int .u8 ((s / 2 ^ (8 * k) % 256 : Nat) : Int))).1
    rw [vals_set, four_set hk] at this
    exact this

theorem sumOf_any (ps : List Part) (A : Option Addr) (B c n s : Nat) (w : World) (hn : n = ps.length) (hs : Crc.sums 0 (ps.map Part.l) = s) (hl : ps.length ≤ 9223372036854775807) (ht : Tab w) (hb : Parts w B A ps) :
    Calls Tryd.prog 17 #[.slice A n c] w (AppPost w (Crc.unle 4 s)) := by
  subst hn
  obtain ⟨i0, hi0, hz0, hz1, hz2⟩ := info_parts byte_info
  have hS : s < 4294967296 := by
    rw [← hs]
    refine Crc.sums_lt (fun q hq => ?_) (by decide)
    obtain ⟨p, hp, rfl⟩ := List.mem_map.1 hq
    exact (hb.1 p hp).1.1
  have HS := Lib.hid hs
  have hT := Lib.hid ht
  have hB := Lib.hid hb
  clear ht hb hs
  go_enter Tryd.func17, Tryd.ntmps17
  go_wp2_with fail
  refine (of_any ps A B c w hl hT.out hB.out).mono ?_
  rintro e w' ⟨rfl, rfl⟩
  rw [HS.out]
  go_wp2_with (
    (at_make
     refine wpList_make_full _ rfl _ _ 22 rfl w.heap.size 5 i0 (.int .u8 0) 1 Tryd.underlying22 hi0 hz0 hz1 _ _ _ _ 4 rfl rfl rfl rfl (by omega) (by simp [maxLen]) (Nat.le_refl _) ?_
     intro w1 hown hgrow
     have HR : Hid (SumRel w s w.heap.size (.int .u32 (s : Int)) (.int .i64 0) w1) := ⟨0, by omega, rfl, by simp, by rw [show Crc.unle 0 s = Crc.unle 0 0 from rfl, ← made_four]; exact hown, (Below.refl _ _).grown hgrow (Nat.le_refl _) (fun k e => by cases e)⟩
     clear hown hgrow))
  go_loopw [3, 11] (fun v i wr => SumRel w s w.heap.size v i wr) (fun _ i _ => 4 - (intOf i).toNat)
  case atStart => exact HR.out
  case round =>
    clear HR
    obtain ⟨k, hk, rfl, rfl, ho, hb⟩ := hrel
    have hcell : k < 4 → wr.cell? ⟨w.heap.size, k, none⟩ = some (.int .u8 ((0 : Nat) : Int)) := fun hk => by
      rw [ho.cellAt k (by omega), vals_get, List.getElem?_append_right (by rw [Crc.unle_length]; exact Nat.le_refl _), Crc.unle_length, Nat.sub_self, List.getElem?_replicate, if_pos (by omega)]; rfl
    have hfz : wr.frozen? ⟨w.heap.size, k, none⟩ = false := ho.frozenAt k
    have HO := Lib.hid ho
    have HB := Lib.hid hb
    clear ho hb
    by_cases hlt : k < 4
    · have HT := Lib.hid (sum_step hlt (Nat.le_refl _) HO.out HB.out)
      have hv : s / 2 ^ (8 * k) < 4294967296 := Nat.lt_of_le_of_lt (Nat.div_le_self _ _) hS
      generalize s / 2 ^ (8 * k) = v at *
      have hc := hcell hlt
      clear hcell
      go_wp2
      go_roundw
      case rel => exact HT.out
      case measure => simp [intOf]; omega
    · obtain rfl : k = 4 := by omega
      go_wp2
      go_ret
      exact ⟨w.heap.size, 4, 4, rfl, Crc.unle_length _ _, Nat.le_refl _, by simpa using HO.out, HB.out⟩

/-- slices.Grow of no list: a new one without a byte, and room. -/
theorem grow_none (w : World) (n : Nat) (h0 : 0 < n) (hn : n ≤ 281474976710656) :
    Calls Tryd.prog 22 #[.slice none 0 0, .int .i64 (n : Int)] w fun e w' => ∃ g cap, e = .returned (.slice (some ⟨g, 0, none⟩) 0 cap) ∧ w'.ownsRow w.heap.size 5 1 (.slice (some ⟨g, 0, none⟩) 0 cap) 0 (vals []) ∧ Below w.heap.size w w' := by
  obtain ⟨i0, hi0, hz0, hz1, hz2⟩ := info_parts byte_info
  have hr := Lib.run_append_nil_zeros (P := Tryd.prog) w 22 3 22 5 i0 (.int .u8 0) .i64 .i64 Tryd.underlying22 Tryd.underlying3 hi0 hz0 n h0 (by omega) (by omega) (by rw [hz2]; omega)
  have hge := grownCap_ge w n 0 5
  have hmx := grownCap_le_maxLen w n 0 5 (by simp only [maxLen]; omega)
  generalize grownCap w n 0 5 = cap at *
  have hsz : (Builtin.zeroCells (Value.int .u8 0).cells n ++ Builtin.zeroCells (Value.int .u8 0).cells (cap - n)).size = cap * 1 := by
    simp only [Array.size_append, size_zeroCells]
    show n * 1 + (cap - n) * 1 = cap * 1
    omega
  have HO : Hid ((w.drew.alloc (.cells (Builtin.zeroCells (Value.int .u8 0).cells n ++ Builtin.zeroCells (Value.int .u8 0).cells (cap - n)) 5)).ownsRow w.heap.size 5 1 (.slice (some ⟨w.heap.size, 0, none⟩) 0 cap) 0 (vals [])) :=
    World.ownsRow_made w.drew _ cap (Nat.le_refl _) hmx hsz
  have HB : Hid (Below w.heap.size w (w.drew.alloc (.cells (Builtin.zeroCells (Value.int .u8 0).cells n ++ Builtin.zeroCells (Value.int .u8 0).cells (cap - n)) 5))) := (Below.refl _ _).drew.alloc (Nat.le_refl _) _
  clear hsz
  generalize Builtin.zeroCells (Value.int .u8 0).cells n ++ Builtin.zeroCells (Value.int .u8 0).cells (cap - n) = cs at *
  go_enter Tryd.func22, Tryd.ntmps22
  go_wp2_with (at_builtin; refine Lib.wpList_append_run _ rfl _ _ _ _ rfl _ _ rfl rfl _ _ hr ?_)
  clear hr
  go_wp2
  go_ret
  exact ⟨w.heap.size, cap, rfl, HO.out, HB.out⟩

/-- so many parts, one behind another. -/
def joined (ps : List Part) (k : Nat) : List Nat := ((ps.take k).map Part.l).flatten
theorem joined_zero (ps : List Part) : joined ps 0 = [] := rfl
theorem joined_succ {ps : List Part} {k : Nat} {p : Part} (h : ps[k]? = some p) : joined ps (k + 1) = joined ps k ++ p.l := by
  unfold joined
  rw [List.take_add_one, h]
  simp
theorem joined_le (ps : List Part) (k : Nat) : (joined ps k).length ≤ (joined ps ps.length).length := by
  have h : joined ps ps.length = joined ps k ++ ((ps.drop k).map Part.l).flatten := by
    unfold joined
    rw [List.take_length, ← List.flatten_append, ← List.map_append, List.take_append_drop]
  rw [h, List.length_append]
  omega
theorem Parts.below {w w' : World} {B : Nat} {A : Option Addr} {ps : List Part} (h : Parts w B A ps) (hB : B ≤ w.heap.size) (hb : Below w.heap.size w w') : Parts w' B A ps :=
  ⟨fun p hp => ⟨(h.1 p hp).1.below ⟨hb.os, hb.tape, hb.output, hb.size, fun i hi => hb.block i (Nat.lt_of_lt_of_le hi hB)⟩, (h.1 p hp).2⟩, fun h0 => by
    obtain ⟨ad, e, hc⟩ := h.2 h0
    exact ⟨ad, e, fun j p hj => (hb.cell (World.block_lt_of_cell? w _ (hc j p hj))).trans (hc j p hj)⟩⟩
/-- what holds at each round's head of Concat's second loop: so many parts stand behind. -/
def CatRel (w : World) (ps : List Part) (o i : Value) (wr : World) : Prop :=
  ∃ (k g cap n : Nat), k ≤ ps.length ∧ i = .int .i64 (k : Int) ∧ o = .slice (some ⟨g, 0, none⟩) n cap ∧ (joined ps k).length = n ∧ wr.ownsRow w.heap.size 5 1 (.slice (some ⟨g, 0, none⟩) n cap) n (vals (joined ps k)) ∧ Below w.heap.size w wr
theorem cat_step {w wr : World} {ps : List Part} {k g cap n : Nat} {p : Part} (hk : k < ps.length) (hp : ps[k]? = some p) (hn : (joined ps k).length = n) (ho : wr.ownsRow w.heap.size 5 1 (.slice (some ⟨g, 0, none⟩) (n + p.l.length) cap) (n + p.l.length) (vals (joined ps k ++ p.l))) (hb : Below w.heap.size w wr) :
    CatRel w ps (.slice (some ⟨g, 0, none⟩) (n + p.l.length) cap) (.int .i64 ((k : Int) + 1)) wr :=
  ⟨k + 1, g, cap, _, hk, by go_num, rfl, by rw [joined_succ hp, List.length_append, hn], by rw [joined_succ hp]; exact ho, hb⟩

theorem Bytes.none_len {w : World} {B : Nat} {A : Option Addr} {l : List Nat} (h : Bytes w B A l) (e : A = none) : l.length = 0 := by
  rcases Nat.eq_zero_or_pos l.length with hz | hz
  · exact hz
  · obtain ⟨_, e2, _⟩ := h.2 hz
    rw [e] at e2; cases e2
theorem own_less {w : World} {B B' n : Nat} {v : Value} {xs : List Value} (h : w.ownsRow B' 5 1 v n xs) (hB : B ≤ B') : w.ownsRow B 5 1 v n xs := by
  refine ⟨h.1, ?_⟩
  rcases h.2 with hz | ⟨g, cap, cur, e, hg, hr⟩
  · exact .inl hz
  · exact .inr ⟨g, cap, cur, e, Nat.le_trans hB hg, hr⟩
theorem AppPost.back {w W : World} {m : List Nat} {e : Ending} {w' : World} (h : AppPost W m e w') (hb : Below w.heap.size w W) : AppPost w m e w' := by
  obtain ⟨g, cap, n, rfl, hn, hg, ho, hb'⟩ := h
  exact ⟨g, cap, n, rfl, hn, Nat.le_trans hb.size hg, own_less ho hb.size, hb.trans (hb'.mono hb.size)⟩

set_option maxHeartbeats 1600000 in
theorem concat_any (ps : List Part) (A : Option Addr) (c n t : Nat) (w : World) (hn : n = ps.length) (hl : n ≤ 9223372036854775807) (hb : Parts w w.heap.size A ps) (hc : ∀ p ∈ ps, p.a = none → p.c = 0) (ht : (joined ps ps.length).length = t) (h0 : 0 < t) (hm : t ≤ 140737488355328) :
    Calls Tryd.prog 16 #[.slice A n c] w (AppPost w (joined ps ps.length)) := by
  have HB := Lib.hid hb
  have HC := Lib.hid hc
  have HJ : Hid (∀ k, (joined ps k).length ≤ t) := fun k => ht ▸ joined_le ps k
  have HT : Hid ((joined ps n).length = t) := by subst hn; exact ht
  have HN := Lib.hid hn
  clear hb hc ht hn
  rw [← HN.out]
  go_enter Tryd.func16, Tryd.ntmps16
  go_wp2
  go_loop [3, 11] (fun v i => ∃ (k m : Nat), k ≤ n ∧ i = .int .i64 (k : Int) ∧ Hid ((joined ps k).length = m) ∧ v = .int .i64 (m : Int)) (fun _ i => n - (intOf i).toNat)
  case atStart => exact ⟨0, 0, Nat.zero_le _, rfl, rfl, rfl⟩
  case round =>
    obtain ⟨k, m, hk, rfl, HM, rfl⟩ := hrel
    by_cases hlt : k < n
    · obtain ⟨ad, p, rfl, hpk, hpb, hpl, hcell⟩ := HB.out.at_ (k := k) (by rw [← HN.out]; exact hlt)
      have hj := HJ.out (k + 1)
      rw [joined_succ hpk, List.length_append, HM.out] at hj
      have HS : Hid ((joined ps (k + 1)).length = m + p.l.length) := by show _ = _; rw [joined_succ hpk, List.length_append, HM.out]
      clear hpk hpb
      go_wp2
      go_round
      case rel => exact ⟨k + 1, _, by omega, by go_num, HS, by go_num⟩
      case measure => simp [intOf]; omega
    · obtain rfl : k = n := by omega
      obtain rfl : m = t := HM.out.symm.trans HT.out
      go_wp2_with fail
      refine (grow_none w m h0 (by omega)).mono ?_
      rintro e w1 ⟨g1, cap1, rfl, ho1, hb1⟩
      have HS : Hid (CatRel w ps (.slice (some ⟨g1, 0, none⟩) 0 cap1) (.int .i64 0) w1) := ⟨0, g1, cap1, 0, Nat.zero_le _, rfl, rfl, rfl, ho1, hb1⟩
      clear ho1 hb1
      go_wp2_with fail
      go_loopw [6, 27] (fun o i wr => CatRel w ps o i wr) (fun _ i _ => k - (intOf i).toNat)
      case atStart => exact HS.out
      case round =>
        clear HS
        obtain ⟨q, g, cap, r, hq, rfl, rfl, hr, ho, hb⟩ := hrel
        rw [← HN.out] at hq
        have HO := Lib.hid ho
        have HW := Lib.hid hb
        have HR := Lib.hid hr
        clear ho hb hr
        by_cases hlt : q < k
        · obtain ⟨ad, p, rfl, hpk, hpb, hpl, hcell⟩ := (HB.out.below (Nat.le_refl _) HW.out).at_ (k := q) (by rw [← HN.out]; exact hlt)
          have hj := HJ.out (q + 1)
          rw [joined_succ hpk, List.length_append, HR.out] at hj
          have PK := Lib.hid hpk
          have PB := Lib.hid (hpb.more HW.out.size)
          have PC := Lib.hid (HC.out p (List.mem_of_getElem? hpk))
          have PN : Hid (p.a = none → p.l.length = 0 ∧ p.c = 0) := fun e => ⟨hpb.none_len e, PC.out e⟩
          clear hpk hpb
          go_wp2_with (
            (at_builtin
             refine wpList_onto rfl (.tmp 31) (.tmp 32) rfl rfl _ w.heap.size g r cap (joined ps q) p.a p.l p.l.length p.c rfl rfl HO.out PN.out PB.out rfl (by omega) HW.out.size ?_
             intro g2 cap2 w2 ho2 hg2 hB2
             have HO2 := Lib.hid ho2
             have HW2 : Hid (Below w.heap.size w w2) := HW.out.grown hg2 HW.out.size (fun k e => by cases e; exact (HO.out.lt g rfl).1)
             clear ho2 hg2))
          go_roundw
          case rel => exact cat_step (by rw [← HN.out]; exact hlt) PK.out HR.out HO2.out HW2.out
          case measure => simp [intOf]; omega
        · obtain rfl : q = k := by omega
          go_wp2
          go_ret
          exact ⟨g, cap, r, rfl, HR.out, (HO.out.lt g rfl).1, HO.out, HW.out⟩

theorem shut_join (x c1 c2 c3 : Nat) (A1 A2 A3 : Option Addr) (l s : List Nat) (hs : s = Crc.unle 4 (Crc.more 0 (x :: l))) : joined [⟨A1, c1, [x]⟩, ⟨A2, c2, l⟩, ⟨A3, c3, s⟩] 3 = Crc.shut (x :: l) := by
  subst hs
  simp [joined, Crc.shut]
theorem small_one {x : Nat} {l : List Nat} (hx : x < 256) (h : Crc.Small l) : Crc.Small (x :: l) := fun y hy => by
  rcases List.mem_cons.1 hy with rfl | hy
  · exact hx
  · exact h y hy

theorem sumOf_new (w : World) (ps : List Part) (cs : Array Value) (hcs : cs = (ps.map fun p => Value.slice p.a p.l.length p.c).toArray) (g n c s : Nat) (hg : g = w.heap.size) (hn : n = ps.length) (h63 : ps.length ≤ 9223372036854775807)
    (hs : Crc.sums 0 (ps.map Part.l) = s) (ht : Tab w) (h : ∀ p ∈ ps, Bytes w w.heap.size p.a p.l ∧ p.l.length ≤ 9223372036854775807) :
    Calls Tryd.prog 17 #[.slice (some ⟨g, 0, none⟩) n c] (w.alloc (.cells cs 22)) (AppPost (w.alloc (.cells cs 22)) (Crc.unle 4 s)) := by
  subst hg
  exact sumOf_any ps _ w.heap.size c n s _ hn hs h63 (ht.below (below_new w _)) (parts_new w ps cs hcs 22 h)
theorem concat_new (w : World) (ps : List Part) (m : List Nat) (cs : Array Value) (hcs : cs = (ps.map fun p => Value.slice p.a p.l.length p.c).toArray) (g n c t : Nat) (hg : g = w.heap.size) (hn : n = ps.length) (h63 : n ≤ 9223372036854775807)
    (hm : joined ps ps.length = m) (ht : m.length = t) (h0 : 0 < t) (h47 : t ≤ 140737488355328) (h : ∀ p ∈ ps, Bytes w w.heap.size p.a p.l ∧ p.l.length ≤ 9223372036854775807) (hc : ∀ p ∈ ps, p.a = none → p.c = 0) :
    Calls Tryd.prog 16 #[.slice (some ⟨g, 0, none⟩) n c] (w.alloc (.cells cs 22)) (AppPost (w.alloc (.cells cs 22)) m) := by
  subst hg hm
  have hp := parts_new w ps cs hcs 22 h
  exact concat_any ps _ c n t _ hn h63 ⟨fun p hp' => ⟨(hp.1 p hp').1.more (below_new w _).size, (hp.1 p hp').2⟩, hp.2⟩ hc ht h0 h47
theorem AppPost.bytes {w : World} {m : List Nat} {g cap n : Nat} {w' : World} (h : w'.ownsRow w.heap.size 5 1 (.slice (some ⟨g, 0, none⟩) n cap) n (vals m)) (hs : Crc.Small m) : Bytes w' w'.heap.size (some ⟨g, 0, none⟩) m := bytes_own h hs

theorem pshut_any (w : World) (A : Option Addr) (l : List Nat) (n c x : Nat) (hn : l.length = n) (hA : A = none → n = 0 ∧ c = 0) (hb : Bytes w w.heap.size A l) (hx : x < 256) (hl : n ≤ 140737488351232) (ht : Tab w) :
    Calls Tryd.prog 9 #[.int .u8 (x : Int), .slice A n c] w (AppPost w (Crc.shut (x :: l))) := by
  have b1 : Hid (Below w.heap.size w (w.alloc (.cells #[.int .u8 (x : Int)] 5))) := below_new w _
  have k1 : Hid (Bytes (w.alloc (.cells #[.int .u8 (x : Int)] 5)) (w.alloc (.cells #[.int .u8 (x : Int)] 5)).heap.size (some ⟨w.heap.size, 0, none⟩) [x]) := (bytes_new w [x] _ rfl (small_one hx (fun y hy => by cases hy)) 5).more (by simp)
  have k2 : Hid (Bytes (w.alloc (.cells #[.int .u8 (x : Int)] 5)) (w.alloc (.cells #[.int .u8 (x : Int)] 5)).heap.size A l) := hb.up b1.out
  have HN := Lib.hid hn
  have HA := Lib.hid hA
  have HT : Hid (Tab (w.alloc (.cells #[.int .u8 (x : Int)] 5))) := ht.below b1.out
  have HB := Lib.hid hb
  clear hb hn hA ht
  obtain ⟨s, hs⟩ : ∃ s, Crc.more 0 (x :: l) = s := ⟨_, rfl⟩
  have HS : Hid (Crc.sums 0 [[x], l] = s) := by
    show _ = _
    rw [← hs]
    show Crc.more (Crc.more 0 [x]) l = _
    rw [Crc.more_more]; rfl
  have HJ : Hid (Crc.shut (x :: l) = x :: l ++ Crc.unle 4 s) := by show _ = _; rw [← hs]; rfl
  have hlen : (Crc.shut (x :: l)).length = n + 5 := by rw [Crc.shut_length, List.length_cons, HN.out]
  clear hs
  go_enter Tryd.func9, Tryd.ntmps9
  go_wp2_with fail
  refine (sumOf_new (w.alloc (.cells #[.int .u8 (x : Int)] 5)) [⟨some ⟨w.heap.size, 0, none⟩, 1, [x]⟩, ⟨A, c, l⟩] #[.slice (some ⟨w.heap.size, 0, none⟩) 1 1, .slice A n c] (by rw [← HN.out]; rfl) (w.heap.size + 1) 2 2 s (by simp) rfl (by simp) HS.out HT.out (fun p hp => by
    simp only [List.mem_cons, List.not_mem_nil, or_false] at hp
    rcases hp with rfl | rfl
    · exact ⟨k1.out, by simp⟩
    · exact ⟨k2.out, by rw [HN.out]; omega⟩)).mono ?_
  rintro e w2 ⟨g, cap, n4, rfl, hn4, hg, ho, hb⟩
  have hn4' : n4 = 4 := by rw [← hn4, Crc.unle_length]
  subst hn4'
  have B2 : Hid (Below (w.alloc (.cells #[.int .u8 (x : Int)] 5)).heap.size (w.alloc (.cells #[.int .u8 (x : Int)] 5)) w2) := ((below_new _ _).trans (hb.mono (below_new _ _).size))
  have K3 : Hid (Bytes w2 w2.heap.size (some ⟨g, 0, none⟩) (Crc.unle 4 s)) := AppPost.bytes ho (Crc.unle_small _ _)
  have K1 : Hid (Bytes w2 w2.heap.size (some ⟨w.heap.size, 0, none⟩) [x]) := k1.out.up B2.out
  have K2 : Hid (Bytes w2 w2.heap.size A l) := k2.out.up B2.out
  have B3 : Hid (Below w.heap.size w w2) := b1.out.trans (B2.out.mono b1.out.size)
  clear ho hb hg hn4 b1 k1 k2 B2
  go_wp2_with fail
  refine (concat_new w2 [⟨some ⟨w.heap.size, 0, none⟩, 1, [x]⟩, ⟨A, c, l⟩, ⟨some ⟨g, 0, none⟩, cap, Crc.unle 4 s⟩] (Crc.shut (x :: l)) #[.slice (some ⟨w.heap.size, 0, none⟩) 1 1, .slice A n c, .slice (some ⟨g, 0, none⟩) 4 cap] (by rw [← HN.out]; rfl) _ 3 3 (n + 5) rfl rfl (by simp) (by rw [HJ.out]; simp [joined]) hlen (by omega) (by omega) (fun p hp => by
    simp only [List.mem_cons, List.not_mem_nil, or_false] at hp
    rcases hp with rfl | rfl | rfl
    · exact ⟨K1.out, by simp⟩
    · exact ⟨K2.out, by rw [HN.out]; omega⟩
    · exact ⟨K3.out, by rw [Crc.unle_length]; omega⟩) (fun p hp hz => by
    simp only [List.mem_cons, List.not_mem_nil, or_false] at hp
    rcases hp with rfl | rfl | rfl
    · cases hz
    · exact (HA.out hz).2
    · cases hz)).mono ?_
  intro e w3 h3
  have h4 := h3.back (w := w) (B3.out.alloc B3.out.size _)
  obtain ⟨g3, cap3, n3, rfl, hn3, hg3, ho3, hb3⟩ := h4
  have H4 : Hid (AppPost w (Crc.shut (x :: l)) (.returned (.slice (some ⟨g3, 0, none⟩) n3 cap3)) w3) := ⟨g3, cap3, n3, rfl, hn3, hg3, ho3, hb3⟩
  clear h3 ho3 hb3 hn3
  go_wp2
  go_ret
  exact H4.out
end Go.Proofs.YtjipeiigcoipjaaDoor.Se
