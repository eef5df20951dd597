/- The contracts of pack's writer: what each of its methods puts behind what it has. For every list of bytes; nothing has turned but the writer's own block and its row. -/
import Derived.Test.YtpleafcjacbkkaaText
import Derived.Deep.RegionHeld3
import Derived.Deep.RegionLaw
import Derived.Lib.AppendStr
namespace Go.Proofs.Ytpleafcjacbkkaa.Nu
open Go.ChangeShapes Go.WideShapes Go.ChangeAt Go.RowKit
set_option linter.unusedVariables false

/-- a writer in block g that has these bytes, in a row of its own above B. -/
def PW (w : World) (B g : Nat) (rb : Option Nat) (m : List Nat) : Prop :=
  ∃ v n, At w g 44 #[v] ∧ v.ownBlock = rb ∧ w.ownsRow B 5 1 v n (vals m) ∧ m.length = n ∧ Small m ∧ B ≤ g
/-- nothing has turned but block g and the row rb. -/
structure Two (w w' : World) (g : Nat) (rb : Option Nat) : Prop where
  os : w'.os = w.os
  tape : w'.tape = w.tape
  output : w'.output = w.output
  size : w.heap.size ≤ w'.heap.size
  block : ∀ k, k < w.heap.size → k ≠ g → some k ≠ rb → w'.heap[k]? = w.heap[k]?
def WPost (w : World) (B g : Nat) (rb : Option Nat) (m : List Nat) (r : Ending) (w' : World) : Prop :=
  r = .returned (.tuple #[]) ∧ ∃ rb', PW w' B g rb' m ∧ (rb' = rb ∨ ∀ k, rb' = some k → w.heap.size ≤ k) ∧ Two w w' g rb

theorem below_undrew {w w' : World} (h : Below w.drew.heap.size w.drew w') : Below w.heap.size w w' := ⟨h.os, h.tape, h.output, h.size, h.block⟩
theorem own_below {w w' : World} {B n : Nat} {v : Value} {xs : List Value} (h : w.ownsRow B 5 1 v n xs) (hb : Below w.heap.size w w') : w'.ownsRow B 5 1 v n xs :=
  h.kept (turn_below hb none) (by cases v.ownBlock <;> simp)
theorem own_ne {w : World} {B g n : Nat} {v : Value} {xs : List Value} {cs : Array Value} (h : At w g 44 cs) (o : w.ownsRow B 5 1 v n xs) : some g ≠ v.ownBlock := by
  rcases o.2 with ⟨rfl, _⟩ | ⟨k, cap, cur, rfl, _, hk, _⟩
  · simp [Value.ownBlock]
  · intro e
    have e' : g = k := by simpa [Value.ownBlock] using e
    subst e'
    unfold At at h
    rw [h] at hk
    cases hk
theorem own_bound {w : World} {B n : Nat} {v : Value} {xs : List Value} (o : w.ownsRow B 5 1 v n xs) {g : Nat} (h : v.ownBlock = some g) : B ≤ g := (o.lt g h).1
/-- what a writer is behind an append and the store. -/
theorem wrote {w w1 w2 : World} {B g n n2 cap2 g2 : Nat} {v : Value} {m y : List Nat} (h1 : At w g 44 #[v]) (h3 : w.ownsRow B 5 1 v n (vals m)) (hs : Small (m ++ y)) (h6 : B ≤ g) (hb : Below w.heap.size w w1) (hg : w1.grownBy w2 v.ownBlock)
    (ho : w2.ownsRow B 5 1 (.slice (some ⟨g2, 0, none⟩) n2 cap2) n2 (vals m ++ vals y)) (hat : v.ownBlock = some g2 ∨ g2 = w1.heap.size) (hl : (m ++ y).length = n2) :
    WPost w B g v.ownBlock (m ++ y) (.returned (.tuple #[])) (w2.setCell ⟨g, 0, none⟩ (.slice (some ⟨g2, 0, none⟩) n2 cap2)) := by
  have k1 : At w1 g 44 #[v] := h1.below hb h1.lt
  have k2 : At w2 g 44 #[v] := k1.kept hg (own_ne k1 (own_below h3 hb))
  have hne : g ≠ g2 := by
    rcases ho.2 with ⟨e, _⟩ | ⟨k, cap, cur, e, _, hk, _⟩
    · cases e
    · cases e
      rintro rfl
      unfold At at k2
      rw [k2] at hk
      cases hk
  refine ⟨rfl, some g2, ⟨_, n2, k2.set 0 _, rfl, ?_, hl, hs, h6⟩, ?_, ?_⟩
  · rw [vals_append]
    exact ho.kept (turn_set w2 g 0 _) (.inr (by simp [Value.ownBlock]; exact fun e => hne e.symm))
  · rcases hat with e | e
    · exact .inl e.symm
    · refine .inr fun k hk => ?_
      cases hk
      rw [e]; exact hb.size
  · refine ⟨?_, ?_, ?_, ?_, fun k hk hkg hkr => ?_⟩
    · exact (turn_set w2 g 0 _).os.trans (hg.os.trans hb.os)
    · exact (turn_set w2 g 0 _).tape.trans (hg.tape.trans hb.tape)
    · exact (turn_set w2 g 0 _).output.trans (hg.output.trans hb.output)
    · exact Nat.le_trans hb.size (Nat.le_trans hg.size (turn_set w2 g 0 _).size)
    · rw [Below.heap_setCell _ _ _ _ (by exact hkg), hg.block k (Nat.lt_of_lt_of_le hk hb.size) hkr, hb.block k hk]

set_option maxHeartbeats 2000000 in
theorem wnum_any (w : World) (B g : Nat) (rb : Option Nat) (m : List Nat) (x : Nat) (h : PW w B g rb m) (hx : x < 18446744073709551616) (hm : m.length ≤ 70368744177664) :
    Calls Try.prog 25 #[.pointer (some ⟨g, 0, none⟩), .int .u64 (x : Int)] w (WPost w B g rb (m ++ enc x)) := by
  obtain ⟨i0, hi0, hz0, hz1, hz2⟩ := info_parts byte_info
  obtain ⟨v, n, h1, rfl, h3, h4, h5, h6⟩ := h
  have c0 := h1.cell 0
  have f0 := h1.frozen 0
  have hgl := h1.lt
  simp at c0
  rw [h4] at hm
  have H1 := Lib.hid h1
  have H3 := Lib.hid h3
  have H4 := Lib.hid h4
  have H5 := Lib.hid h5
  have hel : (enc x).length ≤ 9 := by have := blen_le x; rw [enc_length]; omega
  have hel0 : 0 < (enc x).length := by rw [enc_length]; omega
  obtain ⟨q, hq⟩ : ∃ q, (enc x).length = q := ⟨_, rfl⟩
  rw [hq] at hel hel0
  have HQ := Lib.hid hq
  clear h1 h3 h4 h5 hq
  go_enter Try.func25, Try.ntmps25
  go_wp2_with fail
  go_region_law (first
    | (refine step_append_lies _ rfl (.tmp 10) (.tmp 12) 22 rfl B 5 i0 (.int .u8 0) 1 1 Try.underlying22 hi0 hz0 hz1 hz2 rfl (by decide) v n (vals m) rfl (own_below H3.out HB1.out) ⟨g1, 0, none⟩ q cap1 (vals (enc x)) rfl (by rw [vals_length, HQ.out, Nat.mul_one]) (HO1.out.cells rfl) (vals_one _) hel0 (by simp only [maxLen]; omega) (by omega) (Nat.le_trans (by omega) HB1.out.size) _ rfl ?_
       intro g2 cap2 w2 hown2 hgrow2 hat2 hlt2
       have k2 : At w2 g 44 #[v] := (H1.out.below HB1.out hgl).kept hgrow2 (own_ne (H1.out.below HB1.out hgl) (own_below H3.out HB1.out))
       have e2 := k2.cell 0
       have z2 := k2.frozen 0
       simp at e2
       have HO2 := Lib.hid hown2
       have HG2 := Lib.hid hgrow2
       have HA2 := Lib.hid hat2
       clear k2 hown2 hgrow2 hat2)
    | (go_simp; go_at_call 40; refine (append_any _ none [] 0 0 x rfl (Bytes.none_ _ _ _) (by omega) hx).mono ?_; rintro r w1 ⟨g1, cap1, n1, rfl, hn1, hg1, ho1, hb1⟩
       obtain rfl : q = n1 := HQ.out.symm.trans hn1
       have hb2 := below_undrew hb1
       have k1 : At w1 g 44 #[v] := H1.out.below hb2 hgl
       have e1 := k1.cell 0
       have z1 := k1.frozen 0
       simp at e1
       have HO1 := Lib.hid ho1
       have HB1 := Lib.hid hb2
       clear hn1 ho1 hb1 k1 hg1 hb2))
  all_goals
    go_end0
    exact wrote H1.out H3.out (small_append H5.out (enc_small x)) h6 HB1.out HG2.out HO2.out HA2.out (by rw [List.length_append, H4.out, HQ.out])

set_option maxHeartbeats 1000000 in
theorem wbyte_any (w : World) (B g : Nat) (rb : Option Nat) (m : List Nat) (x : Nat) (h : PW w B g rb m) (hx : x < 256) (hm : m.length ≤ 70368744177664) :
    Calls Try.prog 27 #[.pointer (some ⟨g, 0, none⟩), .int .u8 (x : Int)] w (WPost w B g rb (m ++ [x])) := by
  obtain ⟨i0, hi0, hz0, hz1, hz2⟩ := info_parts byte_info
  obtain ⟨v, n, h1, rfl, h3, h4, h5, h6⟩ := h
  have c0 := h1.cell 0
  have f0 := h1.frozen 0
  have hgl := h1.lt
  simp at c0
  rw [h4] at hm
  have H1 := Lib.hid h1
  have H3 := Lib.hid h3
  have H4 := Lib.hid h4
  have H5 := Lib.hid h5
  clear h1 h3 h4 h5
  have HB1 : Hid (Below w.heap.size w (w.alloc (.cells #[.int .u8 (x : Int)] 5))) := below_new w _
  go_enter Try.func27, Try.ntmps27
  go_wp2_with (
    (at_builtin
     (refine wpList_append_lies _ rfl (.tmp 10) (.tmp 12) 22 rfl B 5 i0 (.int .u8 0) 1 1 Try.underlying22 hi0 hz0 hz1 hz2 rfl (by decide) v n (vals m) rfl (H3.out.alloc _) ⟨w.heap.size, 0, none⟩ 1 1 (vals [x]) rfl rfl (cell_one w _ 5) (vals_one _) (by decide) (by simp only [maxLen]; omega) (by omega) (by simp; omega) _ rfl ?_
      intro g2 cap2 w2 hown2 hgrow2 hat2 hlt2
      have k2 : At w2 g 44 #[v] := (H1.out.below HB1.out hgl).kept hgrow2 (own_ne (H1.out.below HB1.out hgl) (own_below H3.out HB1.out))
      have e2 := k2.cell 0
      have z2 := k2.frozen 0
      simp at e2
      have HO2 := Lib.hid hown2
      have HG2 := Lib.hid hgrow2
      have HA2 := Lib.hid hat2
      clear k2 hown2 hgrow2 hat2)))
  go_end0
  exact wrote H1.out H3.out (small_append H5.out (fun y hy => by simp at hy; omega)) h6 HB1.out HG2.out HO2.out HA2.out (by rw [List.length_append, H4.out]; rfl)
theorem wflag_any (w : World) (B g : Nat) (rb : Option Nat) (m : List Nat) (yes : Bool) (h : PW w B g rb m) (hm : m.length ≤ 70368744177664) :
    Calls Try.prog 28 #[.pointer (some ⟨g, 0, none⟩), .bool yes] w (WPost w B g rb (m ++ [if yes then 1 else 0])) := by
  have H := Lib.hid h
  clear h
  cases yes with
  | true =>
    go_enter Try.func28, Try.ntmps28
    go_wp2_with fail
    refine (wbyte_any w B g rb m 1 H.out (by decide) hm).mono ?_
    rintro r w' ⟨rfl, hp⟩
    go_wp2
    go_end0
    exact ⟨rfl, hp⟩
  | false =>
    go_enter Try.func28, Try.ntmps28
    go_wp2_with fail
    refine (wbyte_any w B g rb m 0 H.out (by decide) hm).mono ?_
    rintro r w' ⟨rfl, hp⟩
    go_wp2
    go_end0
    exact ⟨rfl, hp⟩

/-- a text's bytes. -/
def sb (s : ByteArray) : List Nat := s.data.toList.map UInt8.toNat
theorem sb_length (s : ByteArray) : (sb s).length = s.size := by unfold sb; rw [List.length_map, Array.length_toList]; rfl
theorem sb_small (s : ByteArray) : Small (sb s) := by
  intro x hx
  obtain ⟨y, _, rfl⟩ := List.mem_map.1 hx
  exact y.toNat_lt
theorem vals_sb (s : ByteArray) : vals (sb s) = Lib.strCells s := by unfold vals sb Lib.strCells; rw [List.map_map]; rfl
/-- append of a text, and where the new row lies. -/
theorem str_lies (w : World) (B g n cap : Nat) (xs : List Value) (s : ByteArray) (ho : w.ownsRow B 5 1 (.slice (some ⟨g, 0, none⟩) n cap) n xs) (hl : n + s.size ≤ 140737488355328) (hB : B ≤ w.heap.size) :
    ∃ g2 cap2 w', (Builtin.append_ #[22, 9] 22 #[.slice (some ⟨g, 0, none⟩) n cap, .string s]).run Try.prog w = .ok (.slice (some ⟨g2, 0, none⟩) (n + s.size) cap2) w' ∧
      w'.ownsRow B 5 1 (.slice (some ⟨g2, 0, none⟩) (n + s.size) cap2) (n + s.size) (xs ++ Lib.strCells s) ∧ w.grownBy w' (some g) ∧ (some g = some g2 ∨ g2 = w.heap.size) := by
  obtain ⟨i0, hi0, hz0, hz1, hz2⟩ := info_parts byte_info
  obtain ⟨v', w', hr, h2, h3, _⟩ := Lib.run_append_own_string (P := Try.prog) w B 22 9 22 5 i0 Try.underlying22 Try.underlying9 hi0 hz0 hz1 hz2 _ n xs ho s (by simp only [maxLen]; omega) hl hB
  have hc := ho.cells (g := g) rfl
  have hx := ho.1
  rcases ho.2 with ⟨e, _⟩ | ⟨g', cap', cur, e, hbg, hg, hnc, hcm, hcs, htake⟩
  · cases e
  cases e
  by_cases hroom : n + s.size ≤ cap
  · have hr2 := Lib.run_append_room_string (P := Try.prog) w 22 9 22 5 i0 Try.underlying22 Try.underlying9 hi0 hz1 g n cap cur hg s hroom (by omega)
    rw [hr] at hr2
    cases hr2
    exact ⟨g, cap, _, hr, h2, h3, .inl rfl⟩
  · have hr2 := Lib.run_append_grow_string (P := Try.prog) w 22 9 22 5 i0 (.int .u8 0) Try.underlying22 Try.underlying9 hi0 hz0 ⟨g, 0, none⟩ n cap xs (by rw [hz1]; exact hx) hc s (by omega) (by omega) (by rw [hz2]; exact growslice_fits (by omega) (by omega))
    rw [hr] at hr2
    cases hr2
    exact ⟨w.heap.size, _, _, hr, h2, h3, .inr rfl⟩
theorem wpList_str_lies {ops : Array Oper} {rest : List Oper} {o : Oper} {a : Act} {Q : Exit → Act → World → Prop} (hgd : o.guard = none) (sl x : Operand) (hop : o.op = .call { callee := .builtin .append, args := #[sl, x], argTypes := #[22, 9] }) (hty : o.type = 22)
    (w : World) (B g n cap : Nat) (xs : List Value) (s : ByteArray) (hs : a.eval sl = .slice (some ⟨g, 0, none⟩) n cap) (hx : a.eval x = .string s) (ho : w.ownsRow B 5 1 (.slice (some ⟨g, 0, none⟩) n cap) n xs) (hl : n + s.size ≤ 140737488355328) (hB : B ≤ w.heap.size)
    (h : ∀ g2 cap2 w', w'.ownsRow B 5 1 (.slice (some ⟨g2, 0, none⟩) (n + s.size) cap2) (n + s.size) (xs ++ Lib.strCells s) → w.grownBy w' (some g) → (some g = some g2 ∨ g2 = w.heap.size) → wpList Try.prog ops Q rest (a.put o.dst (.slice (some ⟨g2, 0, none⟩) (n + s.size) cap2)) w') :
    wpList Try.prog ops Q (o :: rest) a w := by
  refine wpList_plain hgd fun K hK => ?_
  obtain ⟨g2, cap2, w', hr, h2, h3, h4⟩ := str_lies w B g n cap xs s ho hl hB
  rw [← hty] at hr
  unfold Oper.wp execOp
  simp only [hop, resolve, invoke, builtin, Sem.run_bind, Sem.run_pure, Result.andThen_ok, List.map_toArray, List.map_cons, List.map_nil, hs, hx]
  rw [hty] at hr ⊢
  rw [hr]
  exact hK _ _ (h g2 cap2 w' h2 h3 h4)
theorem enc_pos (x : Nat) : 0 < (enc x).length := by rw [enc_length]; omega
theorem two_trans {w w1 w2 : World} {g : Nat} {rb rb1 : Option Nat} (h : Two w w1 g rb) (k : Two w1 w2 g rb1) (hr : rb1 = rb ∨ ∀ k, rb1 = some k → w.heap.size ≤ k) : Two w w2 g rb := by
  refine ⟨k.os.trans h.os, k.tape.trans h.tape, k.output.trans h.output, Nat.le_trans h.size k.size, fun i hi hg hrb => ?_⟩
  rw [k.block i (Nat.lt_of_lt_of_le hi h.size) hg ?_, h.block i hi hg hrb]
  intro e
  rcases hr with e1 | e1
  · exact hrb (e.trans e1)
  · have := e1 i e.symm; omega

set_option maxHeartbeats 1000000 in
theorem wtext_any (w : World) (B g : Nat) (rb : Option Nat) (m : List Nat) (s : ByteArray) (h : PW w B g rb m) (hm : m.length + s.size ≤ 70368744177000) :
    Calls Try.prog 30 #[.pointer (some ⟨g, 0, none⟩), .string s] w (WPost w B g rb (m ++ (enc s.size ++ sb s))) := by
  have H := Lib.hid h
  clear h
  go_enter Try.func30, Try.ntmps30
  go_wp2_with fail
  refine (wnum_any w B g rb m s.size H.out (by omega) (by omega)).mono ?_
  rintro r w1 ⟨rfl, rb1, hp, hrb, h2⟩
  obtain ⟨v, n, h1, h1b, h3, h4, h5, h6⟩ := hp
  have hel : (enc s.size).length ≤ 9 := by have := blen_le s.size; rw [enc_length]; omega
  have hn : 0 < n := by rw [← h4, List.length_append]; have := enc_pos s.size; omega
  have hn2 : n ≤ m.length + 9 := by rw [← h4, List.length_append]; omega
  obtain ⟨g1, cap1, rfl, _, _⟩ := h3.form hn
  have hsz : B ≤ w1.heap.size := by have := h1.lt; omega
  have c0 := h1.cell 0
  simp at c0
  have H1 := Lib.hid h1
  have H2 := Lib.hid h2
  have H3 := Lib.hid h3
  have H4 := Lib.hid h4
  have H5 := Lib.hid h5
  have H1b := Lib.hid h1b
  have HRB := Lib.hid hrb
  clear h1 h2 h3 h4 h5 h1b hrb hel hn
  go_wp2_with (
    (at_builtin
     (refine wpList_str_lies rfl (.tmp 15) (.tmp 16) rfl rfl w1 B g1 n cap1 _ s rfl rfl H3.out (by omega) hsz ?_
      intro g2 cap2 w2 ho2 hg2 hat2
      have k2 : At w2 g 44 _ := H1.out.kept hg2 (own_ne H1.out H3.out)
      have e2 := k2.cell 0
      have z2 := k2.frozen 0
      simp at e2
      have HO2 := Lib.hid ho2
      have HG2 := Lib.hid hg2
      have HA2 := Lib.hid hat2
      clear ho2 hg2 hat2 k2)))
  go_end0
  have hw := wrote (y := sb s) H1.out H3.out (small_append H5.out (sb_small s)) h6 (Below.refl _ _) HG2.out (by rw [vals_sb]; exact HO2.out) HA2.out (by rw [List.length_append, H4.out, sb_length])
  obtain ⟨_, rb2, hp2, hrb2, ht2⟩ := hw
  rw [List.append_assoc] at hp2
  have e1 : (Value.slice (some ⟨g1, 0, none⟩) n cap1).ownBlock = rb1 := H1b.out
  rw [e1] at hrb2 ht2
  refine ⟨rfl, rb2, hp2, ?_, two_trans H2.out ht2 HRB.out⟩
  rcases hrb2 with e | e
  · subst e; exact HRB.out
  · exact .inr fun k hk => Nat.le_trans H2.out.size (e k hk)
end Go.Proofs.Ytpleafcjacbkkaa.Nu
