/- Contracts of layer card's copyLine and of slices.Clone at texts. For every line and list of texts. -/
import Derived.Test.YtlndhooiapomlaaKPGl
import Derived.Lib.SliceRun
namespace Go.Proofs.Ytlndhooiapomlaa.Kd
open Go.ChangeShapes Go.WideShapes Go.ChangeAt Go.RowKit
set_option linter.unusedVariables false

theorem text_info : (Try.prog.info? 9).map (fun i => (i.zero, i.size, i.bytes)) = some (some (.string ⟨#[]⟩), 1, 16) := by kernel_rfl
theorem line_info : (Try.prog.info? 28).map (fun i => (i.zero, i.size, i.bytes)) = some (some (.agg #[.int .u8 0, .string ⟨#[]⟩, .slice none 0 0]), 3, 48) := by kernel_rfl
theorem tv_one (l : List ByteArray) : ∀ u ∈ tv l, u.oneCell' = true := by
  intro u hu
  obtain ⟨s, _, rfl⟩ := List.mem_map.1 hu
  rfl
theorem run_nil (w : World) (a : Option Addr) (n c : Nat) : (binOp .eql 26 (.slice a n c) (.slice none 0 0)).run Try.prog w = .ok (.bool a.isNone) w := Lib.run_eql_slice_nil w _ _ a n c 0 0 Try.underlying26

/-- a copy of texts: nil, or a new list. -/
def ClonePost (w : World) (l : List ByteArray) (n : Nat) (e : Ending) (w' : World) : Prop :=
  ∃ A' c', e = .returned (.slice A' n c') ∧ TextsAt w' w'.heap.size A' l n c' ∧ Free w' w.heap.size A' n ∧ Below w.heap.size w w'

set_option maxHeartbeats 4000000 in
theorem pclone_any (w : World) (A : Option Addr) (l : List ByteArray) (n c : Nat) (h : TextsAt w w.heap.size A l n c) :
    Calls Try.prog 31 #[.slice A n c] w (ClonePost w l n) := by
  obtain ⟨i0, hi0, hz0, hz1, hz2⟩ := info_parts text_info
  have H := Lib.hid h
  have hw := h.wide
  clear h
  cases A with
  | none =>
    obtain ⟨rfl, rfl⟩ := H.out.nil rfl
    have hnil := run_nil w none 0 0
    go_enter Try.func31, Try.ntmps31
    go_wp2
    go_ret
    exact ⟨none, 0, rfl, H.out, fun j hj => by omega, Below.refl _ _⟩
  | some ad =>
    have hnil := run_nil w (some ad) n c
    have HC : Hid (∀ j u, (tv l)[j]? = some u → (w.alloc (.cells #[] 9)).cell? (ad.add j) = some u) := by
      intro j u hu
      have hjl : j < (tv l).length := (List.getElem?_eq_some_iff.1 hu).1
      obtain ⟨ad', e, hadb, hc⟩ := H.out.cells (by omega)
      obtain rfl := Option.some.inj e
      exact (World.cell?_alloc_lt _ _ _ (by rw [block_add]; exact hadb)).trans (hc j u hu)
    go_enter Try.func31, Try.ntmps31
    go_wp2_with (
      (at_builtin
       refine wpList_append_own _ rfl (.tmp 5) (.tmp 6) 26 rfl w.heap.size 9 i0 (.string ⟨#[]⟩) 1 16 Try.underlying26 hi0 hz0 hz1 hz2 rfl (by decide) (.slice (some ⟨w.heap.size, 0, none⟩) 0 0) 0 [] rfl (World.ownsRow_lit w #[] 0 (Nat.le_refl _) (by simp [maxLen]) rfl) ad n c (tv l) rfl (by rw [tv_length, H.out.len, Nat.mul_one]) HC.out (tv_one l) (by simp only [maxLen]; omega) (by omega) (by simp) ?_
       intro v1 w2 hown1 hg1 hat1))
    simp only [Nat.zero_add, List.nil_append] at hown1
    obtain ⟨g0, cap0, rfl, hgw0⟩ := Dt.own_shape (w := w) hown1 (.inr (fun h => by simp at hat1; exact hat1 h))
    have hbel : Below w.heap.size w w2 := (below_new w _).grown hg1 (by simp) (fun k hk => by simp [Value.ownBlock] at hk; omega)
    have HO := Lib.hid hown1
    have HB := Lib.hid hbel
    clear hown1 hg1 hat1 hbel HC
    go_wp2
    go_ret
    refine ⟨some ⟨g0, 0, none⟩, cap0, rfl, ⟨H.out.len, (fun e => by cases e), ?_, ?_, hw, H.out.fit, Dt.lies_own HO.out⟩, fun j hj => ⟨_, rfl, hgw0, by rw [Dt.zero_add]; exact HO.out.frozenAt j⟩, HB.out⟩
    · rcases HO.out.2 with ⟨h, _⟩ | ⟨_, _, _, h, _, _, h1, _⟩
      · cases h
      · cases h; exact h1
    · rcases HO.out.2 with ⟨h, _⟩ | ⟨_, _, _, h, _, _, _, h2, _⟩
      · cases h
      · cases h; exact h2

/-- cells of one block that may be written. -/
structure Row (w : World) (g : Nat) (vs : List Value) : Prop where
  lt : g < w.heap.size
  cell : ∀ (j : Nat) (u : Value), vs[j]? = some u → w.cell? ⟨g, j, none⟩ = some u
  free : ∀ j, w.frozen? ⟨g, j, none⟩ = false
theorem Row.below {w W : World} {g B : Nat} {vs : List Value} (h : Row w g vs) (hg : g < B) (hb : Below B w W) (hs : w.heap.size ≤ W.heap.size) : Row W g vs :=
  ⟨Nat.lt_of_lt_of_le h.lt hs, fun j u hu => (hb.cell (p := ⟨g, j, none⟩) hg).trans (h.cell j u hu), fun j => (hb.frozen (p := ⟨g, j, none⟩) hg).trans (h.free j)⟩
theorem size_set (w : World) (q : Addr) (u : Value) : (w.setCell q u).heap.size = w.heap.size := by simp [World.setCell]
theorem Row.set {w : World} {g : Nat} {vs : List Value} (h : Row w g vs) {j : Nat} (hj : j < vs.length) (u : Value) : Row (w.setCell ⟨g, j, none⟩ u) g (vs.set j u) := by
  refine ⟨by rw [size_set]; exact h.lt, fun i x hx => ?_, fun i => (World.frozen?_setCell _ _ _ _).trans (h.free i)⟩
  rw [List.getElem?_set] at hx
  by_cases hij : j = i
  · subst hij
    rw [if_pos rfl, if_pos hj] at hx
    obtain rfl := Option.some.inj hx
    exact World.cell?_setCell_same _ _ _ (h.cell j _ (List.getElem?_eq_getElem hj))
  · rw [if_neg hij] at hx
    exact (World.cell?_setCell_other _ _ _ _ (fun e => hij (by cases e; rfl))).trans (h.cell i x hx)
theorem Row.far {w : World} {g : Nat} {vs : List Value} (h : Row w g vs) {q : Addr} (hq : q.block ≠ g) (u : Value) : Row (w.setCell q u) g vs :=
  ⟨by rw [size_set]; exact h.lt, fun j x hx => (World.cell?_setCell_far _ _ _ _ hq).trans (h.cell j x hx), fun j => (World.frozen?_setCell _ _ _ _).trans (h.free j)⟩
theorem Free.less {w : World} {B B' : Nat} {A : Option Addr} {n : Nat} (h : Free w B A n) (hB : B' ≤ B) : Free w B' A n := fun j hj => by
  obtain ⟨ad, e, hb, hf⟩ := h j hj
  exact ⟨ad, e, Nat.le_trans hB hb, hf⟩
theorem Free.below {w W : World} {B C : Nat} {A : Option Addr} {n : Nat} (h : Free w B A n) (hA : ∀ ad, A = some ad → 0 < n → ad.block < C) (hb : Below C w W) : Free W B A n := fun j hj => by
  obtain ⟨ad, e, hB, hf⟩ := h j hj
  exact ⟨ad, e, hB, (hb.frozen (by rw [block_add]; exact hA ad e (by omega))).trans hf⟩
theorem Free.set {w : World} {B : Nat} {A : Option Addr} {n : Nat} (h : Free w B A n) (q : Addr) (u : Value) : Free (w.setCell q u) B A n := fun j hj => by
  obtain ⟨ad, e, hB, hf⟩ := h j hj
  exact ⟨ad, e, hB, (World.frozen?_setCell _ _ _ _).trans hf⟩
/-- texts in blocks from B on are as they were behind a store below B. -/
theorem TextsAt.set {w : World} {B C : Nat} {A : Option Addr} {l : List ByteArray} {n c : Nat} (h : TextsAt w C A l n c) (hf : Free w B A n) {q : Addr} (hq : q.block < B) (u : Value) : TextsAt (w.setCell q u) C A l n c := by
  refine ⟨h.len, h.nil, h.cap, h.max, h.wide, h.fit, fun hl => ?_⟩
  obtain ⟨ad, e, hC, hc⟩ := h.cells hl
  obtain ⟨ad2, e2, hB, _⟩ := hf 0 (by rw [← h.len, ← tv_length]; exact hl)
  rw [e] at e2
  obtain rfl := Option.some.inj e2
  exact ⟨ad, e, hC, fun j x hx => (World.cell?_setCell_far _ _ _ _ (by rw [block_add]; omega)).trans (hc j x hx)⟩
theorem TextsAt.lt {w : World} {C : Nat} {A : Option Addr} {l : List ByteArray} {n c : Nat} (h : TextsAt w C A l n c) : ∀ ad, A = some ad → 0 < n → ad.block < C := fun ad e hn => by
  obtain ⟨ad2, e2, hC, _⟩ := h.cells (by rw [tv_length, h.len]; exact hn)
  rw [e] at e2
  obtain rfl := Option.some.inj e2
  exact hC

/-- a copy of texts, met later. -/
theorem clone_later {w W : World} {A : Option Addr} {l : List ByteArray} {n c : Nat} (h : TextsAt w w.heap.size A l n c) (hW : Below w.heap.size w W) :
    Calls Try.prog 31 #[.slice A n c] W fun e V => ∃ A' c', e = .returned (.slice A' n c') ∧ TextsAt V V.heap.size A' l n c' ∧ Free V w.heap.size A' n ∧ Below w.heap.size w V := by
  refine (pclone_any W A l n c ((h.below hW).more hW.size)).mono ?_
  rintro e V ⟨A', c', rfl, h1, h2, h3⟩
  exact ⟨A', c', rfl, h1, h2.less hW.size, hW.trans (h3.mono hW.size)⟩

/-- a line of one's own comes out. -/
def OwnPost (w : World) (x : Ln) (e : Ending) (w' : World) : Prop :=
  ∃ q : LV, e = .returned q.val ∧ LineIs w' w'.heap.size q x ∧ Free w' w.heap.size q.adr q.len ∧ Below w.heap.size w w'
theorem own_line {w V : World} {f : Nat} {t : ByteArray} {A : Option Addr} {l : List ByteArray} {n c B : Nat} (hB : w.heap.size ≤ B) (hf : f < 256) (ht : Short t) (h : TextsAt V V.heap.size A l n c) (hfr : Free V B A n) (hb : Below w.heap.size w V) {e : Ending} (he : e = .returned (.agg #[.int .u8 (f : Int), .string t, .slice A n c]))
    {g : Nat} (hg : g < B) (hg2 : w.heap.size ≤ g) (u0 u1 u2 : Value) : OwnPost w (f, t, l) e (((V.setCell ⟨g, 0, none⟩ u0).setCell ⟨g, 1, none⟩ u1).setCell ⟨g, 2, none⟩ u2) := by
  refine ⟨⟨f, t, A, n, c⟩, he, ⟨rfl, hf, rfl, ht, ?_⟩, (((hfr.set _ _).set _ _).set _ _).less hB, ((hb.setCell hg2 _).setCell hg2 _).setCell hg2 _⟩
  rw [size_set, size_set, size_set]
  exact ((h.set hfr hg _).set (hfr.set _ _) hg _).set ((hfr.set _ _).set _ _) hg _

set_option maxHeartbeats 4000000 in
theorem pcopyline_any (w : World) (p : LV) (x : Ln) (h : LineIs w w.heap.size p x) :
    Calls Try.prog 21 #[p.val] w (OwnPost w x) := by
  obtain ⟨p1, p2, A, n, c⟩ := p
  obtain ⟨x1, x2, l⟩ := x
  have e1 : p1 = x1 := h.fld
  have e2 : p2 = x2 := h.txt
  subst e1 e2
  have hf := Lib.hid h.fit
  have hs := Lib.hid h.short
  simp only [LV.val]
  have HB := Lib.hid (below_new2 w (.cells #[.int .u8 (p1 : Int), .string p2, .slice A n c] 28) (.cells #[.int .u8 0, .string ⟨#[]⟩, .slice none 0 0] 28))
  have HT := Lib.hid ((h.more.below HB.out).more HB.out.size)
  clear h
  have hk := boxl w (.int .u8 (p1 : Int)) (.string p2) (.slice A n c) 28 ((w.alloc (.cells #[.int .u8 (p1 : Int), .string p2, .slice A n c] 28)).alloc (.cells #[.int .u8 0, .string ⟨#[]⟩, .slice none 0 0] 28)) (by have := below_new (w.alloc (.cells #[.int .u8 (p1 : Int), .string p2, .slice A n c] 28)) (.cells #[.int .u8 0, .string ⟨#[]⟩, .slice none 0 0] 28); rw [alloc_size] at this; exact this)
  have hr := boxl (w.alloc (.cells #[.int .u8 (p1 : Int), .string p2, .slice A n c] 28)) (.int .u8 0) (.string ⟨#[]⟩) (.slice none 0 0) 28 _ (Below.refl _ _)
  have hfz : ∀ j, ((w.alloc (.cells #[.int .u8 (p1 : Int), .string p2, .slice A n c] 28)).alloc (.cells #[.int .u8 0, .string ⟨#[]⟩, .slice none 0 0] 28)).frozen? ⟨w.heap.size + 1, j, none⟩ = false := fun j => by have := World.frozen?_alloc_new (w.alloc (.cells #[.int .u8 (p1 : Int), .string p2, .slice A n c] 28)) #[.int .u8 0, .string ⟨#[]⟩, .slice none 0 0] 28 j; rw [alloc_size] at this; exact this
  rw [alloc_size] at hr
  have hsz : ((w.alloc (.cells #[.int .u8 (p1 : Int), .string p2, .slice A n c] 28)).alloc (.cells #[.int .u8 0, .string ⟨#[]⟩, .slice none 0 0] 28)).heap.size = w.heap.size + 2 := by rw [alloc_size, alloc_size]
  go_enter Try.func21, Try.ntmps21
  go_wp2_with fail
  generalize (w.alloc (.cells #[.int .u8 (p1 : Int), .string p2, .slice A n c] 28)).alloc (.cells #[.int .u8 0, .string ⟨#[]⟩, .slice none 0 0] 28) = w1 at *
  have HK : Hid (∀ V, Below w1.heap.size w1 V → (V.cell? ⟨w.heap.size, 0, none⟩ = some (.int .u8 (p1 : Int)) ∧ V.cell? ⟨w.heap.size, 1, none⟩ = some (.string p2) ∧ V.cell? ⟨w.heap.size, 2, none⟩ = some (.slice A n c)) ∧ (V.cell? ⟨w.heap.size + 1, 0, none⟩ = some (.int .u8 0) ∧ V.cell? ⟨w.heap.size + 1, 1, none⟩ = some (.string ⟨#[]⟩) ∧ V.cell? ⟨w.heap.size + 1, 2, none⟩ = some (.slice none 0 0)) ∧ V.frozen? ⟨w.heap.size + 1, 0, none⟩ = false ∧ V.frozen? ⟨w.heap.size + 1, 1, none⟩ = false ∧ V.frozen? ⟨w.heap.size + 1, 2, none⟩ = false) := Lib.hid (fun V hV =>
    have c0 : w.heap.size < w1.heap.size := by omega
    have c1 : w.heap.size + 1 < w1.heap.size := by omega
    ⟨⟨(hV.cell (p := ⟨_, 0, none⟩) c0).trans hk.1, (hV.cell (p := ⟨_, 1, none⟩) c0).trans hk.2.1, (hV.cell (p := ⟨_, 2, none⟩) c0).trans hk.2.2⟩, ⟨(hV.cell (p := ⟨_, 0, none⟩) c1).trans hr.1, (hV.cell (p := ⟨_, 1, none⟩) c1).trans hr.2.1, (hV.cell (p := ⟨_, 2, none⟩) c1).trans hr.2.2⟩, (hV.frozen (p := ⟨_, 0, none⟩) c1).trans (hfz 0), (hV.frozen (p := ⟨_, 1, none⟩) c1).trans (hfz 1), (hV.frozen (p := ⟨_, 2, none⟩) c1).trans (hfz 2)⟩)
  have CC := fun W (hW : Below w1.heap.size w1 W) => clone_later HT.out hW
  have hlt : Hid (w.heap.size + 1 < w1.heap.size) := Lib.hid (by omega)
  have hne : ¬ w.heap.size + 1 = w.heap.size := by omega
  obtain ⟨⟨k1, k2, k3⟩, ⟨k4, k5, k6⟩, k7, k8, k9⟩ := HK.out _ (Below.refl _ _)
  clear hk hr hfz hsz
  go_region_held3 (fun V => (V.cell? ⟨w.heap.size, 0, none⟩ = some (.int .u8 (p1 : Int)) ∧ V.cell? ⟨w.heap.size, 1, none⟩ = some (.string p2) ∧ V.cell? ⟨w.heap.size, 2, none⟩ = some (.slice A n c))) (first | go_keep | assumption | exact (HK.out _ (by (repeat (first | exact Below.refl _ _ | assumption | apply bel_drew)))).1) (first
    | (go_at_call 31; (with_reducible refine (CC _ ?_).mono ?_); (repeat (first | exact Below.refl _ _ | assumption | apply bel_drew)); rintro e V ⟨A2, c2, rfl, ht, hfr, bv⟩; have hcV := HK.out V bv; obtain ⟨⟨k1', k2', k3'⟩, ⟨k4', k5', k6'⟩, k7', k8', k9'⟩ := hcV))
  all_goals
    go_wp2_with fail
    have HV := Lib.hid (HB.out.trans (bv.mono HB.out.size))
    clear k1' k2' k3' k1 k2 k3 k4 k5 k6 CC HK
    refine bodyPost_ret (v := .agg #[.int .u8 (p1 : Int), .string p2, .slice A2 n c2]) ?_ rfl ?_
    · simp [results, Try.f21, go_sem, k4', k5', k6']
    · exact own_line (Nat.le_of_lt (Nat.lt_of_succ_lt hlt.out)) hf.out hs.out ht hfr HV.out rfl hlt.out (Nat.le_succ _) _ _ _
end Go.Proofs.Ytlndhooiapomlaa.Kd
