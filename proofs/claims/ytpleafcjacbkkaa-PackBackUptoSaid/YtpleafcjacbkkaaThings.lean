/- What the walk of PackBack rests on: a thing's bytes; what a reader tells of them, and what is left to it; things as they came in; and what holds between the calls of a round. -/
import Derived.Test.YtpleafcjacbkkaaPut
import Derived.Test.YtpleafcjacbkkaaReads
namespace Go.Proofs.Ytpleafcjacbkkaa.Nu
open Go.ChangeShapes Go.WideShapes Go.ChangeAt Go.RowKit
set_option linter.unusedVariables false

/-- a thing: its kind, its number, its text. -/
abbrev Thing := Nat × Nat × ByteArray
/-- a thing's bytes. -/
def tb (t : Thing) : List Nat := if t.1 = 0 then enc t.2.1 else if t.1 = 1 then [t.2.1 % 256] else if t.1 = 2 then [if t.2.1 % 2 = 1 then 1 else 0] else enc t.2.2.size ++ sb t.2.2
def all (l : List Thing) : List Nat := l.flatMap tb
theorem all_take {l : List Thing} {k : Nat} {t : Thing} (h : l[k]? = some t) : all (l.take (k + 1)) = all (l.take k) ++ tb t := by
  unfold all
  rw [List.take_add_one, h, List.flatMap_append]
  simp
theorem all_drop {l : List Thing} {k : Nat} {t : Thing} (h : l[k]? = some t) : all (l.drop k) = tb t ++ all (l.drop (k + 1)) := by
  have hk := (List.getElem?_eq_some_iff.1 h).1
  have he := (List.getElem?_eq_some_iff.1 h).2
  rw [List.drop_eq_getElem_cons hk, he]
  unfold all
  rw [List.flatMap_cons]
theorem tb_len (t : Thing) : (tb t).length ≤ t.2.2.size + 9 := by
  have h1 := blen_le t.2.1
  have h2 := blen_le t.2.2.size
  unfold tb
  split
  · rw [enc_length]; omega
  · split
    · simp
    · split
      · simp
      · rw [List.length_append, enc_length, sb_length]; omega
theorem tb_small (t : Thing) : Small (tb t) := by
  unfold tb
  split
  · exact enc_small _
  · split
    · intro x hx; simp at hx; omega
    · split
      · intro x hx; simp at hx; split at hx <;> omega
      · exact small_append (enc_small _) (sb_small _)
theorem all_small (l : List Thing) : Small (all l) := by
  intro x hx
  obtain ⟨t, _, h⟩ := List.mem_flatMap.1 hx
  exact tb_small t x h
/-- how many bytes things have at most. -/
def most (l : List Thing) : Nat := (l.map fun t : Thing => t.2.2.size + 9).sum
theorem all_len (l : List Thing) : (all l).length ≤ most l := by
  induction l with
  | nil => simp [all]
  | cons t r ih =>
    have := tb_len t
    have e : all (t :: r) = tb t ++ all r := by unfold all; rw [List.flatMap_cons]
    rw [e, List.length_append]
    simp only [most, List.map_cons, List.sum_cons] at ih ⊢
    omega
theorem most_at {l : List Thing} {k : Nat} {t : Thing} (h : l[k]? = some t) : (all (l.take k)).length + (t.2.2.size + 9) ≤ most l := by
  have hk := (List.getElem?_eq_some_iff.1 h).1
  have he := (List.getElem?_eq_some_iff.1 h).2
  have h1 := all_len (l.take k)
  have e : most l = most (l.take k) + most (l.drop k) := by
    unfold most
    rw [← List.sum_append, ← List.map_append, List.take_append_drop]
  rw [e, List.drop_eq_getElem_cons hk, he]
  simp only [most, List.map_cons, List.sum_cons] at h1 ⊢
  omega

/-- what was written is read. -/
theorem num_back {v : Nat} (hv : v < 18446744073709551616) (r : List Nat) : numV (enc v ++ r) = v ∧ numL (enc v ++ r) = r ∧ numE (enc v ++ r) = 0 := by
  have ht : (dig (blen v) v ++ r).take (blen v) = dig (blen v) v := by
    have := List.take_left (l₁ := dig (blen v) v) (l₂ := r)
    rwa [dig_length] at this
  have hd : (dig (blen v) v ++ r).drop (blen v) = r := by
    have := List.drop_left (l₁ := dig (blen v) v) (l₂ := r)
    rwa [dig_length] at this
  have hf : form (blen v) (dig (blen v) v ++ r) = true := by
    refine decide_eq_true ⟨blen_le v, ?_⟩
    cases hb : blen v with
    | zero => exact .inl rfl
    | succ b =>
      have hh := dig_head hv hb
      exact .inr (by simpa [dig] using hh)
  have hl : blen v ≤ (dig (blen v) v ++ r).length := by rw [List.length_append, dig_length]; omega
  have e : enc v ++ r = blen v :: (dig (blen v) v ++ r) := rfl
  rw [e, numV_cons, numL_cons, numE_cons, if_pos ⟨hf, hl⟩, if_pos ⟨hf, hl⟩, if_pos hf, if_pos hl, ht, hd]
  exact ⟨val_enc hv, rfl, rfl⟩
theorem text_back (s : ByteArray) (hs : s.size < 9223372036854775808) (r : List Nat) : textV (s.size : Int) ((enc s.size ++ sb s) ++ r) = sb s ∧ textL (s.size : Int) ((enc s.size ++ sb s) ++ r) = r ∧ textE (s.size : Int) ((enc s.size ++ sb s) ++ r) 0 = 0 := by
  obtain ⟨h1, h2, h3⟩ := num_back (v := s.size) (by omega) (sb s ++ r)
  rw [← List.append_assoc] at h1 h2 h3
  have hm : ¬ ((s.size : Int).toNat < numV (enc s.size ++ sb s ++ r)) := by rw [h1]; omega
  have hl : s.size ≤ (sb s ++ r).length := by rw [List.length_append, sb_length]; omega
  have ht : (sb s ++ r).take s.size = sb s := by
    have := List.take_left (l₁ := sb s) (l₂ := r)
    rwa [sb_length] at this
  have hd : (sb s ++ r).drop s.size = r := by
    have := List.drop_left (l₁ := sb s) (l₂ := r)
    rwa [sb_length] at this
  unfold textV textL textE
  rw [if_neg hm, if_neg hm, if_neg hm, h1, h2, h3]
  unfold takeV takeL takeE
  rw [if_pos hl, if_pos hl, if_pos hl, ht, hd]
  exact ⟨rfl, rfl, rfl⟩
theorem str_sb (s : ByteArray) : str (sb s) = s := by
  apply ByteArray.ext
  apply Array.ext'
  have h := str_toList (sb s)
  rw [ByteArray.toList_eq] at h
  rw [h]
  unfold sb
  rw [List.map_map]
  have : (UInt8.ofNat ∘ UInt8.toNat) = id := by funext x; simp
  rw [this, List.map_id]

/-- things as they came in: three cells each. -/
def Things (w : World) (B : Nat) (A : Option Addr) (l : List Thing) : Prop :=
  (∀ t ∈ l, t.1 < 256 ∧ t.2.1 < 18446744073709551616) ∧
  (0 < l.length → ∃ ad : Addr, A = some ad ∧ ad.block < B ∧ ∀ (j : Nat) (t : Thing), l[j]? = some t → w.cell? (ad.add (j * 3)) = some (.int .u8 (t.1 : Int)) ∧ w.cell? (ad.add (j * 3 + 1)) = some (.int .u64 (t.2.1 : Int)) ∧ w.cell? (ad.add (j * 3 + 2)) = some (.string t.2.2))
theorem Things.below {w w' : World} {B : Nat} {A : Option Addr} {l : List Thing} (h : Things w B A l) (hb : Below B w w') : Things w' B A l :=
  ⟨h.1, fun hl => by
    obtain ⟨ad, e, hB, hc⟩ := h.2 hl
    exact ⟨ad, e, hB, fun j t hx => ⟨(hb.cell (by rw [block_add]; exact hB)).trans (hc j t hx).1, (hb.cell (by rw [block_add]; exact hB)).trans (hc j t hx).2.1, (hb.cell (by rw [block_add]; exact hB)).trans (hc j t hx).2.2⟩⟩⟩
theorem add_next2 (ad : Addr) (m : Nat) : (⟨(ad.add m).block, (ad.add m).off + 2, none⟩ : Addr) = ad.add (m + 2) := by
  rw [add_lit, block_add]
  unfold Addr.add
  split
  · rename_i h; rw [h]
  · rfl
theorem Things.at_ {w : World} {B : Nat} {A : Option Addr} {l : List Thing} (h : Things w B A l) {k : Nat} (hk : k < l.length) :
    ∃ (ad : Addr) (kd v : Nat) (s : ByteArray), A = some ad ∧ l[k]? = some (kd, v, s) ∧ kd < 256 ∧ v < 18446744073709551616 ∧ w.cell? (ad.add (k * 3)) = some (.int .u8 (kd : Int)) ∧
      w.cell? ⟨(ad.add (k * 3)).block, (ad.add (k * 3)).off + 1, none⟩ = some (.int .u64 (v : Int)) ∧ w.cell? ⟨(ad.add (k * 3)).block, (ad.add (k * 3)).off + 2, none⟩ = some (.string s) := by
  obtain ⟨ad, e, hB, hc⟩ := h.2 (by omega)
  obtain ⟨a1, a2⟩ := h.1 _ (List.getElem_mem hk)
  obtain ⟨c1, c2, c3⟩ := hc k l[k] (List.getElem?_eq_getElem hk)
  exact ⟨ad, l[k].1, l[k].2.1, l[k].2.2, e, List.getElem?_eq_getElem hk, a1, a2, c1, by rw [add_next]; exact c2, by rw [add_next2]; exact c3⟩

/-- the list that is to come out, apart from the writer's blocks g and rb. -/
def Want (W : World) (g : Nat) (rb : Option Nat) (A : Option Addr) (n c : Nat) (m : List Nat) : Prop :=
  m.length = n ∧ (A = none → n = 0 ∧ c = 0) ∧ Bytes W W.heap.size A m ∧ ∀ ad, A = some ad → ad.block < W.heap.size ∧ ad.block ≠ g ∧ some ad.block ≠ rb
/-- between the calls of a round: what the writer has, what is to come out, and the thing's own block q. -/
def Half (w : World) (g : Nat) (m m' : List Nat) (A : Option Addr) (n c q : Nat) (cs : Array Value) (W : World) : Prop :=
  w.heap.size ≤ g ∧ q ≠ g ∧ At W q 46 cs ∧ Below w.heap.size w W ∧ ∃ rb, some q ≠ rb ∧ PW W g g rb m ∧ Want W g rb A n c m'
/-- at a round's head. -/
def Head (w : World) (g : Nat) (m : List Nat) (A : Option Addr) (n c : Nat) (W : World) : Prop :=
  w.heap.size ≤ g ∧ Below w.heap.size w W ∧ ∃ rb, PW W g g rb m ∧ Want W g rb A n c m

theorem want_kept {W W1 : World} {g n c : Nat} {rb rb1 : Option Nat} {A : Option Addr} {m : List Nat} (h : Want W g rb A n c m) (hsz : W.heap.size ≤ W1.heap.size) (hk : ∀ k, k < W.heap.size → k ≠ g → some k ≠ rb → W1.heap[k]? = W.heap[k]?)
    (hr : rb1 = rb ∨ ∀ k, rb1 = some k → W.heap.size ≤ k) : Want W1 g rb1 A n c m := by
  obtain ⟨h1, h2, h3, h4⟩ := h
  refine ⟨h1, h2, ⟨h3.1, fun h0 => ?_⟩, fun ad e => ?_⟩
  · obtain ⟨ad, e, hlt, hc⟩ := h3.2 h0
    obtain ⟨_, hg, hrb⟩ := h4 ad e
    exact ⟨ad, e, Nat.lt_of_lt_of_le hlt hsz, fun j x hx => (World.cell?_of_block (by rw [block_add]; exact hk _ hlt hg hrb)).trans (hc j x hx)⟩
  · obtain ⟨hlt, hg, hrb⟩ := h4 ad e
    refine ⟨Nat.lt_of_lt_of_le hlt hsz, hg, fun e1 => ?_⟩
    rcases hr with hr | hr
    · exact hrb (e1.trans hr)
    · have := hr _ e1.symm; omega
theorem want_below {W W1 : World} {g n c : Nat} {rb : Option Nat} {A : Option Addr} {m : List Nat} (h : Want W g rb A n c m) (hb : Below W.heap.size W W1) : Want W1 g rb A n c m :=
  want_kept h hb.size (fun k hk _ _ => hb.block k hk) (.inl rfl)

/-- a thing is taken out of the list. -/
theorem head_half {w W : World} {g n c : Nat} {A : Option Addr} {m : List Nat} (h : Head w g m A n c W) (cs : Array Value) : Half w g m m A n c W.heap.size cs (W.alloc (.cells cs 46)) := by
  obtain ⟨hg, hb, rb, hp, hw⟩ := h
  have hgl := hp.base.2
  refine ⟨hg, by omega, At.new _ _ _, hb.alloc hb.size _, rb, fun e => ?_, hp.below (below_new W _), want_below hw (below_new W _)⟩
  have := (hp.row _ e.symm).2
  omega
theorem half_head {w W : World} {g n c q : Nat} {A : Option Addr} {m : List Nat} {cs : Array Value} (h : Half w g m m A n c q cs W) : Head w g m A n c W := by
  obtain ⟨hg, hq, ha, hb, rb, hr, hp, hw⟩ := h
  exact ⟨hg, hb, rb, hp, hw⟩
/-- a writer's call. -/
theorem half_put {w W : World} {f : FuncId} {args : Array Value} {g n c q : Nat} {A : Option Addr} {m m1 m' : List Nat} {cs : Array Value} (h : Half w g m m' A n c q cs W) (hc : ∀ rb, PW W g g rb m → Calls Try.prog f args W (WPost W g g rb m1)) :
    Calls Try.prog f args W fun r W1 => r = .returned (.tuple #[]) ∧ Half w g m1 m' A n c q cs W1 := by
  obtain ⟨hg, hq, ha, hb, rb, hr, hp, hw⟩ := h
  refine (hc rb hp).mono ?_
  rintro r W1 ⟨rfl, rb1, hp1, hr1, ht⟩
  refine ⟨rfl, hg, hq, ?_, hb.trans (below_two ht hg (fun k e => Nat.le_trans hg (hp.row k e).1) hb.size), rb1, fun e => ?_, hp1, want_kept hw ht.size ht.block hr1⟩
  · exact (ht.block q ha.lt hq hr).trans ha
  · rcases hr1 with e1 | e1
    · exact hr (e.trans e1)
    · have := e1 q e.symm; have := ha.lt; omega
/-- a call that makes a new list. -/
theorem half_app {w W W1 : World} {g n c q : Nat} {A : Option Addr} {m m' m1 : List Nat} {cs : Array Value} {r : Ending} (h : Half w g m m' A n c q cs W) (hs : Small m1) (hc : AppPost W m1 r W1) :
    ∃ A1 n1 c1, r = .returned (.slice A1 n1 c1) ∧ Half w g m m1 A1 n1 c1 q cs W1 := by
  obtain ⟨hg, hq, ha, hb, rb, hr, hp, hw⟩ := h
  obtain ⟨g1, cap1, n1, rfl, hn1, hg1, ho1, hb1⟩ := hc
  refine ⟨some ⟨g1, 0, none⟩, n1, cap1, rfl, hg, hq, ha.below hb1 ha.lt, hb.trans (hb1.mono hb.size), rb, hr, hp.below hb1, hn1, fun e => (by cases e), bytes_own ho1 hs, fun ad e => ?_⟩
  cases e
  have h1 := (ho1.lt g1 rfl).2
  have h2 := hp.base.2
  refine ⟨h1, ?_, fun e => ?_⟩
  · show g1 ≠ g; omega
  · have h3 : g1 < W.heap.size := (hp.row _ e.symm).2
    omega
theorem Half.want {w W : World} {g n c q : Nat} {A : Option Addr} {m m' : List Nat} {cs : Array Value} (h : Half w g m m' A n c q cs W) : m'.length = n ∧ (A = none → n = 0 ∧ c = 0) ∧ Bytes W W.heap.size A m' := by
  obtain ⟨hg, hq, ha, hb, rb, hr, hp, hw⟩ := h
  exact ⟨hw.1, hw.2.1, hw.2.2.1⟩
theorem Half.cell {w W : World} {g n c q : Nat} {A : Option Addr} {m m' : List Nat} {cs : Array Value} (h : Half w g m m' A n c q cs W) (i : Nat) : W.cell? ⟨q, i, none⟩ = cs[i]? := h.2.2.1.cell i
end Go.Proofs.Ytpleafcjacbkkaa.Nu
