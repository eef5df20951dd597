/- The contracts of strings.Cut at a point and of strconv.ParseUint at base 10 as the program's Parse takes them; plain facts on what they say of a dot's text. -/
import Derived.Test.YtoojlalpcmlanaaDoorPText
import Derived.Lib.IndexLaws
import Derived.Lib.ParseIntBCases
namespace Go.Proofs.YtoojlalpcmlanaaDoor.Dt
open Go.ChangeShapes Go.WideShapes Go.ChangeAt Go.RowKit
set_option linter.unusedVariables false

/-- what lies ahead of the first point, and behind it. -/
def cutL (l : List UInt8) : List UInt8 × List UInt8 :=
  match l.findIdx? (fun c => c == 46) with
  | none => (l, [])
  | some k => (l.take k, l.drop (k + 1))
theorem cut_none {l : List UInt8} (h : ∀ k : Nat, l[k]? ≠ some 46) : cutL l = (l, []) := by
  have : l.findIdx? (fun c => c == 46) = none := by
    rw [List.findIdx?_eq_none_iff]
    intro c hc
    obtain ⟨i, hi, rfl⟩ := List.getElem_of_mem hc
    have := h i
    rw [List.getElem?_eq_getElem hi] at this
    simpa using this
  unfold cutL
  rw [this]
theorem cut_at {l : List UInt8} {k : Nat} (h1 : l[k]? = some 46) (h2 : ∀ j, j < k → l[j]? ≠ some 46) : cutL l = (l.take k, l.drop (k + 1)) := by
  have : l.findIdx? (fun c => c == 46) = some k := by
    obtain ⟨hlt, he⟩ := List.getElem?_eq_some_iff.1 h1
    rw [List.findIdx?_eq_some_iff_getElem]
    refine ⟨hlt, by rw [he]; rfl, fun j hj => ?_⟩
    have := h2 j hj
    rw [List.getElem?_eq_getElem (by omega)] at this
    simpa using this
  unfold cutL
  rw [this]
theorem cut_text (d : Dot) : cutL (textL d) = (decB d.1, decB d.2) := by
  have h1 : (textL d)[(decB d.1).length]? = some 46 := by unfold textL; simp
  have h2 : ∀ j, j < (decB d.1).length → (textL d)[j]? ≠ some 46 := by
    intro j hj
    unfold textL
    rw [List.getElem?_append_left hj, List.getElem?_eq_getElem hj]
    intro e
    exact dec_nopoint _ (List.getElem_mem hj) (Option.some.inj e)
  rw [cut_at h1 h2]
  have ht : (textL d).take (decB d.1).length = decB d.1 := List.take_left' rfl
  have hd : (textL d).drop ((decB d.1).length + 1) = decB d.2 := by
    unfold textL
    rw [List.drop_append, List.drop_of_length_le (by omega)]
    have : (decB d.1).length + 1 - (decB d.1).length = 1 := by omega
    rw [this]; rfl
  rw [ht, hd]
theorem fold_ge (l : List UInt8) (a : Nat) : a ≤ l.foldl (fun v c => v * 10 + (c.toNat - 48)) a := by
  induction l generalizing a with
  | nil => exact Nat.le_refl _
  | cons c l ih =>
    have := ih (a * 10 + (c.toNat - 48))
    rw [List.foldl_cons]
    omega
theorem uintM_ok (M : Nat) (hM : M < 18446744073709551616) (l : List UInt8) (a : Nat) (hd : l.all isDig = true) (h : l.foldl (fun v c => v * 10 + (c.toNat - 48)) a ≤ M) : Lib.parseUintM M a l = .ok (l.foldl (fun v c => v * 10 + (c.toNat - 48)) a) := by
  induction l generalizing a with
  | nil => rfl
  | cons c l ih =>
    rw [List.all_cons, Bool.and_eq_true] at hd
    have h1 := (isDig_iff c).1 hd.1
    rw [List.foldl_cons] at h ⊢
    have h2 := fold_ge l (a * 10 + (c.toNat - 48))
    unfold Lib.parseUintM
    rw [if_pos h1, if_neg (by omega), if_neg (by omega)]
    exact ih _ hd.2 h
theorem uint_dec (B : Nat) (hB : 2 ^ B - 1 < 18446744073709551616) (v : Nat) (hv : v ≤ 2 ^ B - 1) : Lib.parseUintB B (decB v) = .ok v := by
  have h1 := dec_val v
  unfold valB at h1
  unfold Lib.parseUintB
  rw [if_neg (fun e => by have := dec_some v; rw [e] at this; simp at this), uintM_ok _ hB _ _ (dec_dig v) (by rw [h1]; exact hv), h1]

/-- what the program's Parse says, out of the numbers that stand ahead of and behind the first point. -/
theorem parse_err {l : List UInt8} (h : (∀ u, Lib.parseUintB 16 (cutL l).1 ≠ .ok u) ∨ ∀ u, Lib.parseUintB 64 (cutL l).2 ≠ .ok u) : parseB l = ((0, 0), false) := by
  cases hp : (parseB l).2 with
  | false => exact parse_no hp
  | true =>
    exfalso
    obtain ⟨h1, h2, h3⟩ := parse_back hp
    have h4 := (may_iff _).1 h2
    generalize (parseB l).1 = d at h1 h2 h3 h4
    rw [h1, cut_text] at h
    rcases h with h | h
    · exact h _ (uint_dec 16 (by decide) d.1 (by omega))
    · exact h _ (uint_dec 64 (by decide) d.2 (by omega))
theorem parse_other {l : List UInt8} {x y : Nat} (h1 : Lib.parseUintB 16 (cutL l).1 = .ok x) (h2 : Lib.parseUintB 64 (cutL l).2 = .ok y) (h : textL (x, y) ≠ l) : parseB l = ((0, 0), false) := by
  cases hp : (parseB l).2 with
  | false => exact parse_no hp
  | true =>
    exfalso
    obtain ⟨h3, h4, h5⟩ := parse_back hp
    have h6 := (may_iff _).1 h4
    generalize (parseB l).1 = d at h3 h4 h5 h6
    rw [h3, cut_text] at h1 h2
    rw [uint_dec 16 (by decide) d.1 (by omega)] at h1
    rw [uint_dec 64 (by decide) d.2 (by omega)] at h2
    cases h1
    cases h2
    exact h h3.symm
theorem parse_same {l : List UInt8} {x y : Nat} (hx : x < 65536) (h : textL (x, y) = l) : parseB l = keepD (x, y) := by
  rw [← h, parse_text _ hx]; rfl

set_option maxHeartbeats 1000000 in
theorem icut_any (s : ByteArray) (hs : s.size ≤ maxLen) (w : World) :
    Calls Tryd.prog 50 #[.string s, .string ⟨#[46]⟩] w fun e w' => ∃ (a b : ByteArray) (f : Bool), e = .returned (.tuple #[.string a, .string b, .bool f]) ∧ (a.data.toList = (cutL s.data.toList).1 ∧ b.data.toList = (cutL s.data.toList).2) ∧ Below w.heap.size w w' := by
  unfold maxLen at hs
  have CI := fun W => Tryd.stringslite_Index_one s 46 W
  by_cases h : Lib.indexByte s.data.toList 46 = -1
  · have hn := Lib.hid (cut_none (Lib.indexByte_none h))
    rw [h] at CI
    clear h
    go_enter Tryd.func50, Tryd.ntmps50
    go_wp2_with fail
    refine (CI _).mono ?_
    rintro e w1 ⟨rfl, rfl⟩
    go_wp2
    go_ret3
    exact ⟨_, _, _, rfl, by rw [hn.out]; exact ⟨rfl, rfl⟩, Below.refl _ _⟩
  · obtain ⟨k, hk⟩ : ∃ k : Nat, Lib.indexByte s.data.toList 46 = k := ⟨(Lib.indexByte s.data.toList 46).toNat, by have := Lib.indexByte_ge s.data.toList 46; omega⟩
    obtain ⟨h1, h2⟩ := Lib.indexByte_some hk
    have hlt : k < s.size := by
      have := (List.getElem?_eq_some_iff.1 h1).1
      simpa using this
    have hn := Lib.hid (cut_at h1 h2)
    rw [hk] at CI
    clear h hk h1 h2
    have hz : (⟨#[46]⟩ : ByteArray).size = 1 := rfl
    have c1 : (0 : Int) ≤ ↑k := by omega
    have c2 : (↑k : Int) ≤ ↑s.size := by omega
    have c3 : (0 : Int) ≤ ↑k + 1 := by omega
    have c4 : (↑k + 1 : Int) ≤ ↑s.size := by omega
    go_enter Tryd.func50, Tryd.ntmps50
    go_wp2_with fail
    refine (CI _).mono ?_
    rintro e w1 ⟨rfl, rfl⟩
    go_wp2_with fail
    go_region
    go_wp2
    go_ret3
    exact ⟨_, _, _, rfl, by rw [hn.out]; exact ⟨toList_first _ _, toList_rest _ _⟩, (Below.refl _ _).drew⟩
theorem pcut_any (s : ByteArray) (hs : s.size ≤ maxLen) (w : World) :
    Calls Tryd.prog 42 #[.string s, .string ⟨#[46]⟩] w fun e w' => ∃ (a b : ByteArray) (f : Bool), e = .returned (.tuple #[.string a, .string b, .bool f]) ∧ (a.data.toList = (cutL s.data.toList).1 ∧ b.data.toList = (cutL s.data.toList).2) ∧ Below w.heap.size w w' := by
  have CI := fun W => icut_any s hs W
  clear hs
  go_enter Tryd.func42, Tryd.ntmps42
  go_wp2_with fail
  refine (CI _).mono ?_
  rintro e w1 ⟨a, b, f, rfl, hab, hb⟩
  have HAB := Lib.hid hab
  have HB := Lib.hid hb
  clear hab hb
  go_wp2
  go_ret3
  exact ⟨a, b, f, rfl, HAB.out, HB.out⟩

/-- what lies in a dot's own block, in every later world. -/
theorem one_dot (w : World) (d : Dot) : ∀ V, Below (w.alloc (.cells #[.int .u16 (d.1 : Int), .int .u64 (d.2 : Int)] 25)).heap.size (w.alloc (.cells #[.int .u16 (d.1 : Int), .int .u64 (d.2 : Int)] 25)) V → V.cell? ⟨w.heap.size, 0, none⟩ = some (.int .u16 (d.1 : Int)) ∧ V.cell? ⟨w.heap.size, 1, none⟩ = some (.int .u64 (d.2 : Int)) := by
  intro V hV
  have hc1 : (w.alloc (.cells #[.int .u16 (d.1 : Int), .int .u64 (d.2 : Int)] 25)).cell? ⟨w.heap.size, 0, none⟩ = some (.int .u16 (d.1 : Int)) := by simp [go_sem]
  have hc2 : (w.alloc (.cells #[.int .u16 (d.1 : Int), .int .u64 (d.2 : Int)] 25)).cell? ⟨w.heap.size, 1, none⟩ = some (.int .u64 (d.2 : Int)) := by simp [go_sem]
  exact ⟨(hV.cell (World.block_lt_of_cell? _ _ hc1)).trans hc1, (hV.cell (World.block_lt_of_cell? _ _ hc2)).trans hc2⟩

/-- strconv's two errors lie in their variables, and its table of powers. -/
structure Vars (w : World) : Prop where
  pow : Pow w
  syn : ∃ te pe, w.cell? ⟨2, 0, none⟩ = some (.iface te pe)
  rng : ∃ te pe, w.cell? ⟨3, 0, none⟩ = some (.iface te pe)
theorem Vars.below {w W : World} (h : Vars w) (hb : Below w.heap.size w W) : Vars W := by
  obtain ⟨t1, p1, h1⟩ := h.syn
  obtain ⟨t2, p2, h2⟩ := h.rng
  exact ⟨h.pow.below hb, ⟨t1, p1, (hb.cell (World.block_lt_of_cell? w _ h1)).trans h1⟩, ⟨t2, p2, (hb.cell (World.block_lt_of_cell? w _ h2)).trans h2⟩⟩

/-- what ParseUint leaves at B bits. -/
def NumPost (w : World) (B : Nat) (l : List UInt8) (e : Ending) (w' : World) : Prop :=
  ((∃ u : Nat, e = .returned (.tuple #[.int .u64 u, .nilIface]) ∧ Lib.parseUintB B l = .ok u) ∨
    ∃ (v : Int) (N : Nat), e = .returned (.tuple #[.int .u64 v, .iface 86 (.pointer (some ⟨N, 0, none⟩))]) ∧ ∀ u, Lib.parseUintB B l ≠ .ok u) ∧ Below w.heap.size w w'
theorem num16_any (s : ByteArray) (hs : s.size ≤ 281474976710656) (w : World) (hV : Vars w) :
    Calls Tryd.prog 43 #[.string s, .int .i64 10, .int .i64 16] w (NumPost w 16 s.data.toList) := by
  obtain ⟨t1, p1, h1⟩ := hV.syn
  obtain ⟨t2, p2, h2⟩ := hV.rng
  rcases h : Lib.parseUintB 16 s.data.toList with u | _ | _
  · refine (Tryd.strconv_ParseUint_10_at16_ok s (by omega) u h w).mono ?_
    rintro e w' ⟨rfl, hw⟩
    refine ⟨.inl ⟨u, rfl, h⟩, ?_⟩
    rcases hw with rfl | rfl
    · exact Below.refl _ _
    · exact Lib.bytesWorld_below _ _ _
  · refine (Tryd.strconv_ParseUint_10_at16_syntax s hs (fun u hu => by rw [h] at hu; cases hu) (fun hu => by rw [h] at hu; cases hu) _ w h1 (.inr ⟨t1, p1, rfl⟩)).mono ?_
    rintro e w' ⟨N, rfl, _, _, hb⟩
    exact ⟨.inr ⟨_, N, rfl, fun u hu => by rw [h] at hu; cases hu⟩, hb⟩
  · refine (Tryd.strconv_ParseUint_10_at16_range s hs h _ w h2 (.inr ⟨t2, p2, rfl⟩)).mono ?_
    rintro e w' ⟨N, rfl, _, _, hb⟩
    exact ⟨.inr ⟨_, N, rfl, fun u hu => by rw [h] at hu; cases hu⟩, hb⟩
theorem num64_any (s : ByteArray) (hs : s.size ≤ 281474976710656) (w : World) (hV : Vars w) :
    Calls Tryd.prog 43 #[.string s, .int .i64 10, .int .i64 64] w (NumPost w 64 s.data.toList) := by
  obtain ⟨t1, p1, h1⟩ := hV.syn
  obtain ⟨t2, p2, h2⟩ := hV.rng
  rcases h : Lib.parseUintB 64 s.data.toList with u | _ | _
  · refine (Tryd.strconv_ParseUint_10_at64_ok s (by omega) u h w).mono ?_
    rintro e w' ⟨rfl, hw⟩
    refine ⟨.inl ⟨u, rfl, h⟩, ?_⟩
    rcases hw with rfl | rfl
    · exact Below.refl _ _
    · exact Lib.bytesWorld_below _ _ _
  · refine (Tryd.strconv_ParseUint_10_at64_syntax s hs (fun u hu => by rw [h] at hu; cases hu) (fun hu => by rw [h] at hu; cases hu) _ w h1 (.inr ⟨t1, p1, rfl⟩)).mono ?_
    rintro e w' ⟨N, rfl, _, _, hb⟩
    exact ⟨.inr ⟨_, N, rfl, fun u hu => by rw [h] at hu; cases hu⟩, hb⟩
  · refine (Tryd.strconv_ParseUint_10_at64_range s hs h _ w h2 (.inr ⟨t2, p2, rfl⟩)).mono ?_
    rintro e w' ⟨N, rfl, _, _, hb⟩
    exact ⟨.inr ⟨_, N, rfl, fun u hu => by rw [h] at hu; cases hu⟩, hb⟩
end Go.Proofs.YtoojlalpcmlanaaDoor.Dt
