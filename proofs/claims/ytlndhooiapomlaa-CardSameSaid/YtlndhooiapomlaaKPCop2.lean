/- The contract of layer card's Copy. For every card. -/
import Derived.Test.YtlndhooiapomlaaKPCopy
import Derived.Laws.MakeOwn
namespace Go.Proofs.Ytlndhooiapomlaa.Kd
open Go.ChangeShapes Go.WideShapes Go.ChangeAt Go.RowKit
set_option linter.unusedVariables false

theorem make_lines (w : World) (n : Nat) (hn : n ≤ 4398046511104) :
    ∃ Z : Array Value, Z.size = n * 3 ∧ (Instr.makeSlice 23 (.int .i64 (n : Int)) (.int .i64 (n : Int))).run Try.prog w = .ok (.slice (some ⟨w.heap.size, 0, none⟩) n n) (w.alloc (.cells Z 28)) := by
  obtain ⟨i0, hi0, hz0, hz1, hz2⟩ := info_parts line_info
  have h := run_make (P := Try.prog) w 23 28 i0 _ Try.underlying23 hi0 hz0 .i64 .i64 (n : Int) (n : Int) (by omega) (Int.le_refl _) (by rw [hz2]; omega) (by omega)
  rw [Int.toNat_natCast, hz1] at h
  exact ⟨_, size_madeCells _ _, h⟩

theorem take_one {α : Type} {l : List α} {k : Nat} {x : α} (h : l[k]? = some x) : l.take (k + 1) = l.take k ++ [x] := by rw [List.take_add_one, h]; rfl
theorem LineIs.set {w : World} {B C : Nat} {p : LV} {x : Ln} (h : LineIs w C p x) (hf : Free w B p.adr p.len) {q : Addr} (hq : q.block < B) (u : Value) : LineIs (w.setCell q u) C p x :=
  ⟨h.fld, h.fit, h.txt, h.short, h.more.set hf hq u⟩
theorem Match.set {w : World} {B C : Nat} {ps : List LV} {l : List Ln} (h : Match w C ps l) (hf : ∀ p ∈ ps, Free w B p.adr p.len) {q : Addr} (hq : q.block < B) (u : Value) : Match (w.setCell q u) C ps l :=
  ⟨h.1, fun k p x hp hx => (h.2 k p x hp hx).set (hf p (List.mem_of_getElem? hp)) hq u⟩
theorem Match.free {w W : World} {B C : Nat} {ps : List LV} {l : List Ln} (h : Match w C ps l) (hf : ∀ p ∈ ps, Free w B p.adr p.len) (hb : Below C w W) : ∀ p ∈ ps, Free W B p.adr p.len := by
  intro p hp
  obtain ⟨k, hk, rfl⟩ := List.getElem_of_mem hp
  have hl : k < l.length := by rw [← h.1]; exact hk
  exact (hf _ hp).below (h.2 k _ _ (List.getElem?_eq_getElem hk) (List.getElem?_eq_getElem hl)).more.lt hb
theorem lv_snoc (ps : List LV) (q : LV) (rest : List Value) : lv (ps ++ [q]) ++ rest = lv ps ++ (.int .u8 (q.fld : Int) :: .string q.txt :: .slice q.adr q.len q.cap :: rest) := by
  rw [lv_append, List.append_assoc]; rfl
theorem set_at (a : List Value) (r0 u : Value) (rest : List Value) (j : Nat) (h : a.length = j) : (a ++ r0 :: rest).set j u = a ++ u :: rest := by
  subst h; simp
/-- what stands between two rounds of Copy: the lines that were copied, and room for the others. -/
structure CopyRel (w1 : World) (g : Nat) (l : List Ln) (n k : Nat) (wr : World) (ps : List LV) (rest : List Value) : Prop where
  row : Row wr g (lv ps ++ rest)
  room : rest.length = (n - k) * 3
  len : ps.length = k
  mat : Match wr wr.heap.size ps (l.take k)
  free : ∀ p ∈ ps, Free wr (g + 1) p.adr p.len
  bel : Below g w1 wr
theorem CopyRel.start {w1 : World} (l : List Ln) {n : Nat} {Z : Array Value} {t : TypeId} (hZ : Z.size = n * 3) : CopyRel w1 w1.heap.size l n 0 (w1.alloc (.cells Z t)) [] Z.toList := by
  refine ⟨⟨by rw [alloc_size]; omega, fun j u hu => ?_, fun j => World.frozen?_alloc_new _ _ _ _⟩, by rw [Array.length_toList, hZ, Nat.sub_zero], rfl, Match.nil_ _ _, fun p hp => (by cases hp), below_new _ _⟩
  rw [World.cell?_alloc_new]
  simpa [lv] using hu
theorem CopyRel.next {w1 wr V0 V : World} {g n k : Nat} {l : List Ln} {ps : List LV} {rest : List Value} (h : CopyRel w1 g l n k wr ps rest) (hk : k < n) (h0 : Below wr.heap.size wr V0) (hb : Below V0.heap.size V0 V)
    {x : Ln} {q : LV} (hx : l[k]? = some x) (hq : LineIs V V.heap.size q x) (hf : Free V V0.heap.size q.adr q.len) :
    ∃ rest', CopyRel w1 g l n (k + 1) (((V.setCell ⟨g, k * 3, none⟩ (.int .u8 (q.fld : Int))).setCell ⟨g, k * 3 + 1, none⟩ (.string q.txt)).setCell ⟨g, k * 3 + 2, none⟩ (.slice q.adr q.len q.cap)) (ps ++ [q]) rest' := by
  have hV : Below wr.heap.size wr V := h0.trans (hb.mono h0.size)
  have hr := h.row.below h.row.lt hV hV.size
  have hroom := h.room
  have hlen := h.len
  have hl3 : (lv ps).length = k * 3 := by rw [lv_length, hlen]
  match rest, hroom, hr with
  | [], hroom, _ => simp at hroom; omega
  | [_], hroom, _ => simp at hroom; omega
  | [_, _], hroom, _ => simp at hroom; omega
  | r0 :: r1 :: r2 :: rest', hroom, hr =>
    refine ⟨rest', ?_, by simp at hroom; omega, by rw [List.length_append, hlen]; rfl, ?_, ?_, ?_⟩
    · rw [lv_snoc]
      have h1 := hr.set (j := k * 3) (by rw [List.length_append, hl3]; simp) (.int .u8 (q.fld : Int))
      rw [set_at _ _ _ _ _ hl3] at h1
      have h2 := h1.set (j := k * 3 + 1) (by rw [List.length_append, hl3]; simp) (.string q.txt)
      rw [show lv ps ++ (.int .u8 (q.fld : Int)) :: r1 :: r2 :: rest' = (lv ps ++ [.int .u8 (q.fld : Int)]) ++ r1 :: r2 :: rest' by simp, set_at _ _ _ _ _ (by simp [hl3])] at h2
      have h3 := h2.set (j := k * 3 + 2) (by simp [hl3]) (.slice q.adr q.len q.cap)
      rw [show (lv ps ++ [.int .u8 (q.fld : Int)]) ++ (.string q.txt) :: r2 :: rest' = (lv ps ++ [.int .u8 (q.fld : Int), .string q.txt]) ++ r2 :: rest' by simp, set_at _ _ _ _ _ (by simp [hl3])] at h3
      rw [show lv ps ++ (.int .u8 (q.fld : Int) :: .string q.txt :: .slice q.adr q.len q.cap :: rest') = (lv ps ++ [.int .u8 (q.fld : Int), .string q.txt]) ++ .slice q.adr q.len q.cap :: rest' by simp]
      exact h3
    · rw [size_set, size_set, size_set, take_one hx]
      have hfq := hf.less (B' := g + 1) (Nat.le_trans h.row.lt h0.size)
      have hm : Match V V.heap.size (ps ++ [q]) (l.take k ++ [x]) := ((h.mat.below hV).more_ hV.size).snoc hq
      have hff : ∀ p ∈ ps ++ [q], Free V (g + 1) p.adr p.len := by
        intro p hp
        rcases List.mem_append.1 hp with hp | hp
        · exact h.mat.free h.free hV p hp
        · obtain rfl := List.mem_singleton.1 hp
          exact hfq
      exact ((hm.set hff (Nat.lt_succ_self g) _).set (fun p hp => (hff p hp).set _ _) (Nat.lt_succ_self g) _).set (fun p hp => ((hff p hp).set _ _).set _ _) (Nat.lt_succ_self g) _
    · intro p hp
      rcases List.mem_append.1 hp with hp | hp
      · exact (((h.mat.free h.free hV p hp).set _ _).set _ _).set _ _
      · obtain rfl := List.mem_singleton.1 hp
        exact (((hf.less (B' := g + 1) (Nat.le_trans h.row.lt h0.size)).set _ _).set _ _).set _ _
    · exact (((h.bel.trans (hV.mono (Nat.le_of_lt h.row.lt))).setCell (Nat.le_refl _) _).setCell (Nat.le_refl _) _).setCell (Nat.le_refl _) _
/-- the room for the next line, behind a call. -/
theorem CopyRel.next_cells {w1 wr V : World} {g n k : Nat} {l : List Ln} {ps : List LV} {rest : List Value} (h : CopyRel w1 g l n k wr ps rest) (hk : k < n) (hV : Below wr.heap.size wr V) :
    ∃ v0 v1 v2, (V.cell? ⟨g, k * 3, none⟩ = some v0 ∧ V.cell? ⟨g, k * 3 + 1, none⟩ = some v1 ∧ V.cell? ⟨g, k * 3 + 2, none⟩ = some v2) ∧ V.frozen? ⟨g, k * 3, none⟩ = false ∧ V.frozen? ⟨g, k * 3 + 1, none⟩ = false ∧ V.frozen? ⟨g, k * 3 + 2, none⟩ = false := by
  have hr := h.row.below h.row.lt hV hV.size
  have hl : (lv ps ++ rest).length = k * 3 + (n - k) * 3 := by rw [List.length_append, lv_length, h.len, h.room]
  refine ⟨_, _, _, ⟨hr.cell _ _ (List.getElem?_eq_getElem (by omega)), hr.cell _ _ (List.getElem?_eq_getElem (by omega)), hr.cell _ _ (List.getElem?_eq_getElem (by omega))⟩, hr.free _, hr.free _, hr.free _⟩
/-- the card that comes out. -/
theorem CopyRel.done {w w1 wr : World} {g n r i : Nat} {l : List Ln} {ps : List LV} {rest : List Value} (h : CopyRel w1 g l n n wr ps rest) (hl : l.length = n) (hn : n ≤ 4398046511104) (hi : i < 18446744073709551616) (hw : Below w.heap.size w w1) (hr : w.heap.size ≤ r) (hrg : r < g) (u0 u1 : Value)
    {e : Ending} (he : e = .returned (.agg #[.int .u64 (i : Int), .slice (some ⟨g, 0, none⟩) n n])) : CopyPost w (i, l) e ((wr.setCell ⟨r, 0, none⟩ u0).setCell ⟨r, 1, none⟩ u1) := by
  have hm := h.mat
  rw [List.take_of_length_le (by rw [hl]; exact Nat.le_refl _)] at hm
  have hf1 : ∀ p ∈ ps, Free (wr.setCell ⟨r, 0, none⟩ u0) (g + 1) p.adr p.len := fun p hp => (h.free p hp).set _ _
  have hrow : Row ((wr.setCell ⟨r, 0, none⟩ u0).setCell ⟨r, 1, none⟩ u1) g (lv ps ++ rest) := (h.row.far (q := ⟨r, 0, none⟩) (show r ≠ g by omega) u0).far (q := ⟨r, 1, none⟩) (show r ≠ g by omega) u1
  have hm2 : Match ((wr.setCell ⟨r, 0, none⟩ u0).setCell ⟨r, 1, none⟩ u1) wr.heap.size ps l := (hm.set h.free (q := ⟨r, 0, none⟩) (show r < g + 1 by omega) u0).set hf1 (q := ⟨r, 1, none⟩) (show r < g + 1 by omega) u1
  have hwg : w.heap.size ≤ g := by omega
  refine ⟨⟨i, some ⟨g, 0, none⟩, n, n⟩, he, ⟨rfl, hi, hl, (fun e => by cases e), Nat.le_refl _, ?_, hn, ps, fun _ => ⟨_, rfl, by rw [size_set, size_set]; exact h.row.lt, fun j u hu => ?_⟩, by rw [size_set, size_set]; exact hm2⟩, fun k hk => ?_, ((hw.trans (h.bel.mono hwg)).setCell hr _).setCell hr _⟩
  · show n ≤ 9223372036854775807
    omega
  · rw [Dt.zero_add]
    exact hrow.cell j u (by rw [List.getElem?_append_left (List.getElem?_eq_some_iff.1 hu).1]; exact hu)
  · have hkp : k < ps.length := by rw [h.len]; exact hk
    have hg := lv_get (List.getElem?_eq_getElem hkp)
    have hfp := (((h.free _ (List.getElem_mem hkp)).set ⟨r, 0, none⟩ u0).set ⟨r, 1, none⟩ u1)
    refine ⟨⟨g, 0, none⟩, ps[k], rfl, hwg, by rw [Dt.zero_add]; exact hrow.free _, ?_, hfp.less (by omega), fun ad2 e h0 => ?_⟩
    · rw [Dt.zero_add]
      exact hrow.cell _ _ (by rw [List.getElem?_append_left (List.getElem?_eq_some_iff.1 hg.2.2).1]; exact hg.2.2)
    · obtain ⟨ad3, e3, hB, _⟩ := hfp 0 h0
      rw [e] at e3
      obtain rfl := Option.some.inj e3
      show ad2.block ≠ g
      omega

set_option maxHeartbeats 8000000 in
theorem pcopy_any (w : World) (p : CV) (x : Crd) (h : CardIs w w.heap.size p x) :
    Calls Try.prog 19 #[p.val] w (CopyPost w x) := by
  obtain ⟨p0, A, n, c⟩ := p
  obtain ⟨x0, l⟩ := x
  have e1 : p0 = x0 := h.cid
  subst e1
  have hfit := Lib.hid h.fit
  have H := Lib.hid h.lines
  have hn := h.lines.wide
  clear h
  simp only [CV.val]
  have HB := Lib.hid (below_new2 w (.cells #[.int .u64 (p0 : Int), .slice A n c] 25) (.cells #[.int .u64 0, .slice none 0 0] 25))
  have hk := box_two w (.int .u64 (p0 : Int)) (.slice A n c) 25 ((w.alloc (.cells #[.int .u64 (p0 : Int), .slice A n c] 25)).alloc (.cells #[.int .u64 0, .slice none 0 0] 25)) (by have := below_new (w.alloc (.cells #[.int .u64 (p0 : Int), .slice A n c] 25)) (.cells #[.int .u64 0, .slice none 0 0] 25); rw [alloc_size] at this; exact this)
  have hr := box_two (w.alloc (.cells #[.int .u64 (p0 : Int), .slice A n c] 25)) (.int .u64 0) (.slice none 0 0) 25 _ (Below.refl _ _)
  have hfz : ∀ j, ((w.alloc (.cells #[.int .u64 (p0 : Int), .slice A n c] 25)).alloc (.cells #[.int .u64 0, .slice none 0 0] 25)).frozen? ⟨w.heap.size + 1, j, none⟩ = false := fun j => by have := World.frozen?_alloc_new (w.alloc (.cells #[.int .u64 (p0 : Int), .slice A n c] 25)) #[.int .u64 0, .slice none 0 0] 25 j; rw [alloc_size] at this; exact this
  rw [alloc_size] at hr
  have hsz : ((w.alloc (.cells #[.int .u64 (p0 : Int), .slice A n c] 25)).alloc (.cells #[.int .u64 0, .slice none 0 0] 25)).heap.size = w.heap.size + 2 := by rw [alloc_size, alloc_size]
  obtain ⟨Z, hZ, hmk⟩ := make_lines ((w.alloc (.cells #[.int .u64 (p0 : Int), .slice A n c] 25)).alloc (.cells #[.int .u64 0, .slice none 0 0] 25)) n hn
  have HS := Lib.hid (CopyRel.start (w1 := (w.alloc (.cells #[.int .u64 (p0 : Int), .slice A n c] 25)).alloc (.cells #[.int .u64 0, .slice none 0 0] 25)) (t := 28) l hZ)
  rw [hsz] at hmk HS
  have HK : Hid (∀ V, Below (w.heap.size + 2) ((w.alloc (.cells #[.int .u64 (p0 : Int), .slice A n c] 25)).alloc (.cells #[.int .u64 0, .slice none 0 0] 25)) V → (V.cell? ⟨w.heap.size, 0, none⟩ = some (.int .u64 (p0 : Int)) ∧ V.cell? ⟨w.heap.size, 1, none⟩ = some (.slice A n c)) ∧ (V.cell? ⟨w.heap.size + 1, 0, none⟩ = some (.int .u64 0) ∧ V.cell? ⟨w.heap.size + 1, 1, none⟩ = some (.slice none 0 0)) ∧ V.frozen? ⟨w.heap.size + 1, 0, none⟩ = false ∧ V.frozen? ⟨w.heap.size + 1, 1, none⟩ = false) := Lib.hid (fun V hV =>
    have c0 : w.heap.size < w.heap.size + 2 := by omega
    have c1 : w.heap.size + 1 < w.heap.size + 2 := by omega
    ⟨⟨(hV.cell (p := ⟨_, 0, none⟩) c0).trans hk.1, (hV.cell (p := ⟨_, 1, none⟩) c0).trans hk.2⟩, ⟨(hV.cell (p := ⟨_, 0, none⟩) c1).trans hr.1, (hV.cell (p := ⟨_, 1, none⟩) c1).trans hr.2⟩, (hV.frozen (p := ⟨_, 0, none⟩) c1).trans (hfz 0), (hV.frozen (p := ⟨_, 1, none⟩) c1).trans (hfz 1)⟩)
  obtain ⟨k1, k2⟩ := hk
  obtain ⟨⟨k3, k4⟩, _, _⟩ := HK.out _ HS.out.bel
  clear hr hfz hZ hsz
  go_enter Try.func19, Try.ntmps19
  go_wp2_with fail
  generalize (w.alloc (.cells #[.int .u64 (p0 : Int), .slice A n c] 25)).alloc (.cells #[.int .u64 0, .slice none 0 0] 25) = w1 at *
  have h2 : w.heap.size ≤ w.heap.size + 2 := by omega
  go_loopw [13] (fun i wr => ∃ (k : Nat) (ps : List LV) (rest : List Value), k ≤ n ∧ i = .int .i64 (k : Int) ∧ CopyRel w1 (w.heap.size + 2) l n k wr ps rest) (fun i _ => n - (intOf i).toNat)
  case atStart => exact ⟨0, [], _, Nat.zero_le _, rfl, HS.out⟩
  case round =>
    clear k1 k2 k3 k4 hmk HS
    obtain ⟨k, ps, rest, hkn, rfl, hR⟩ := hrel
    have HR := Lib.hid hR
    clear hR
    by_cases hlt : k < n
    · have HA : Hid (LinesAt wr w.heap.size A l n c) := Lib.hid (H.out.below (HB.out.trans (HR.out.bel.mono h2)))
      obtain ⟨ad, q, x, rfl, hadb, hlx, hp, c1, c2, c3⟩ := HA.out.line hlt
      obtain ⟨x1, x2, x3⟩ := x
      obtain ⟨q1, q2, qA, qn, qc⟩ := q
      have eq1 : q1 = x1 := hp.fld
      have eq2 : q2 = x2 := hp.txt
      subst eq1 eq2
      simp only at c1 c2 c3
      have hws : w.heap.size ≤ wr.heap.size := Nat.le_trans HB.out.size (HR.out.bel.mono h2).size
      have CL := pcopyline_any (wr.alloc (.cells #[.int .u8 (q1 : Int), .string q2, .slice qA qn qc] 28)) ⟨q1, q2, qA, qn, qc⟩ (q1, q2, x3) ((hp.below ((below_new wr _).mono hws)).more_ (by rw [alloc_size]; omega))
      simp only [LV.val] at CL
      have HX := Lib.hid hlx
      clear hp hlx
      go_wp2_with fail
      refine CL.mono ?_
      rintro e V ⟨pq, rfl, hq, hf, hb⟩
      obtain ⟨f2, t2, A2, n2, c2'⟩ := pq
      have HQ := Lib.hid hq
      have HF := Lib.hid hf
      have HBV := Lib.hid hb
      obtain ⟨v0, v1, v2, ⟨d0, d1, d2⟩, e0, e1, e2⟩ := HR.out.next_cells hlt ((below_new wr _).trans (hb.mono (below_new wr _).size))
      clear CL hq hf hb c1 c2 c3
      simp only [LV.val]
      go_wp2_with fail
      go_roundw
      case rel =>
        obtain ⟨rest', h⟩ := CopyRel.next HR.out hlt (below_new wr _) HBV.out HX.out HQ.out HF.out
        exact ⟨k + 1, _, rest', by omega, by go_num, h⟩
      case measure => simp [intOf]; omega
    · obtain rfl : k = n := by omega
      obtain ⟨⟨a1, a2⟩, ⟨a3, a4⟩, a5, a6⟩ := HK.out wr HR.out.bel
      go_wp2
      refine bodyPost_ret (v := .agg #[.int .u64 (p0 : Int), .slice (some ⟨w.heap.size + 2, 0, none⟩) k k]) ?_ rfl ?_
      · simp [results, Try.f19, go_sem, a3, a4]
      · exact HR.out.done H.out.len hn hfit.out HB.out (Nat.le_succ _) (by omega) _ _ rfl
end Go.Proofs.Ytlndhooiapomlaa.Kd
