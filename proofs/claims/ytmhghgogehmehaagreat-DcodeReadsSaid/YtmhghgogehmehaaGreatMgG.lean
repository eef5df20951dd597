/- Words and contracts that the proofs of this seat stand on, part 7 of 20. -/
import Derived.Test.YtmhghgogehmehaaGreatMgF
import Derived.Deep.RegionHeld3
import Derived.Deep.RegionLaw
import Derived.Lib.AppendStr
import Derived.Test.YtmhghgogehmehaaGreatMgC
import Derived.Test.YtmhghgogehmehaaGreatMgD
import Derived.WalkSmall
import Derived.Test.YtmhghgogehmehaaGreatMgE

/- The contracts of pack's writer: what each of its methods puts behind what it has. For every list of bytes; nothing has turned but the writer's own block and its row. -/
namespace Go.Proofs.YtmhghgogehmehaaGreat.Nu
open Go.ChangeShapes Go.WideShapes Go.ChangeAt Go.RowKit
set_option linter.unusedVariables false
set_option maxRecDepth 4000

/-- a writer in block g that has these bytes, in a row of its own above B. -/
def PW (w : World) (B g : Nat) (rb : Option Nat) (m : List Nat) : Prop :=
  ∃ v n, At w g 33 #[v] ∧ v.ownBlock = rb ∧ w.ownsRow B 5 1 v n (vals m) ∧ m.length = n ∧ Small m ∧ B ≤ g
/-- nothing has turned but block g and the row rb. -/
structure Two (w w' : World) (g : Nat) (rb : Option Nat) : Prop where
  os : w'.os = w.os
  tape : w'.tape = w.tape
  output : w'.output = w.output
  size : w.heap.size ≤ w'.heap.size
  block : ∀ k, k < w.heap.size → k ≠ g → some k ≠ rb → w'.heap[k]? = w.heap[k]?
def WPost (w : World) (B g : Nat) (rb : Option Nat) (m : List Nat) (r : Ending) (w' : World) : Prop :=
  r = .returned (.tuple #[]) ∧ ∃ rb', PW w' B g rb' m ∧ (rb' = rb ∨ ∀ k, rb' = some k → w.heap.size ≤ k) ∧ Two w w' g rb

theorem below_undrew {w w' : World} (h : Below w.drew.heap.size w.drew w') : Below w.heap.size w w' := ⟨h.os, h.tape, h.output, h.size, h.block⟩
theorem own_below {w w' : World} {B n : Nat} {v : Value} {xs : List Value} (h : w.ownsRow B 5 1 v n xs) (hb : Below w.heap.size w w') : w'.ownsRow B 5 1 v n xs :=
  h.kept (turn_below hb none) (by cases v.ownBlock <;> simp)
theorem own_ne {w : World} {B g n : Nat} {v : Value} {xs : List Value} {cs : Array Value} (h : At w g 33 cs) (o : w.ownsRow B 5 1 v n xs) : some g ≠ v.ownBlock := by
  rcases o.2 with ⟨rfl, _⟩ | ⟨k, cap, cur, rfl, _, hk, _⟩
  · simp [Value.ownBlock]
  · intro e
    have e' : g = k := by simpa [Value.ownBlock] using e
    subst e'
    unfold At at h
    rw [h] at hk
    cases hk
theorem own_bound {w : World} {B n : Nat} {v : Value} {xs : List Value} (o : w.ownsRow B 5 1 v n xs) {g : Nat} (h : v.ownBlock = some g) : B ≤ g := (o.lt g h).1
/-- what a writer is behind an append and the store. -/
theorem wrote {w w1 w2 : World} {B g n n2 cap2 g2 : Nat} {v : Value} {m y : List Nat} (h1 : At w g 33 #[v]) (h3 : w.ownsRow B 5 1 v n (vals m)) (hs : Small (m ++ y)) (h6 : B ≤ g) (hb : Below w.heap.size w w1) (hg : w1.grownBy w2 v.ownBlock)
    (ho : w2.ownsRow B 5 1 (.slice (some ⟨g2, 0, none⟩) n2 cap2) n2 (vals m ++ vals y)) (hat : v.ownBlock = some g2 ∨ g2 = w1.heap.size) (hl : (m ++ y).length = n2) :
    WPost w B g v.ownBlock (m ++ y) (.returned (.tuple #[])) (w2.setCell ⟨g, 0, none⟩ (.slice (some ⟨g2, 0, none⟩) n2 cap2)) := by
  have k1 : At w1 g 33 #[v] := h1.below hb h1.lt
  have k2 : At w2 g 33 #[v] := k1.kept hg (own_ne k1 (own_below h3 hb))
  have hne : g ≠ g2 := by
    rcases ho.2 with ⟨e, _⟩ | ⟨k, cap, cur, e, _, hk, _⟩
    · cases e
    · cases e
      rintro rfl
      unfold At at k2
      rw [k2] at hk
      cases hk
  refine ⟨rfl, some g2, ⟨_, n2, k2.set 0 _, rfl, ?_, hl, hs, h6⟩, ?_, ?_⟩
  · rw [vals_append]
    exact ho.kept (turn_set w2 g 0 _) (.inr (by simp [Value.ownBlock]; exact fun e => hne e.symm))
  · rcases hat with e | e
    · exact .inl e.symm
    · refine .inr fun k hk => ?_
      cases hk
      rw [e]; exact hb.size
  · refine ⟨?_, ?_, ?_, ?_, fun k hk hkg hkr => ?_⟩
    · exact (turn_set w2 g 0 _).os.trans (hg.os.trans hb.os)
    · exact (turn_set w2 g 0 _).tape.trans (hg.tape.trans hb.tape)
    · exact (turn_set w2 g 0 _).output.trans (hg.output.trans hb.output)
    · exact Nat.le_trans hb.size (Nat.le_trans hg.size (turn_set w2 g 0 _).size)
    · rw [Below.heap_setCell _ _ _ _ (by exact hkg), hg.block k (Nat.lt_of_lt_of_le hk hb.size) hkr, hb.block k hk]

set_option maxHeartbeats 2000000 in
theorem wnum_any (w : World) (B g : Nat) (rb : Option Nat) (m : List Nat) (x : Nat) (h : PW w B g rb m) (hx : x < 18446744073709551616) (hm : m.length ≤ 70368744177664) :
    Calls Tryz.prog 33 #[.pointer (some ⟨g, 0, none⟩), .int .u64 (x : Int)] w (WPost w B g rb (m ++ enc x)) := by
  obtain ⟨i0, hi0, hz0, hz1, hz2⟩ := info_parts byte_info
  obtain ⟨v, n, h1, rfl, h3, h4, h5, h6⟩ := h
  have c0 := h1.cell 0
  have f0 := h1.frozen 0
  have hgl := h1.lt
  simp at c0
  rw [h4] at hm
  have H1 := Lib.hid h1
  have H3 := Lib.hid h3
  have H4 := Lib.hid h4
  have H5 := Lib.hid h5
  have hel : (enc x).length ≤ 9 := by have := blen_le x; rw [enc_length]; omega
  have hel0 : 0 < (enc x).length := by rw [enc_length]; omega
  obtain ⟨q, hq⟩ : ∃ q, (enc x).length = q := ⟨_, rfl⟩
  rw [hq] at hel hel0
  have HQ := Lib.hid hq
  clear h1 h3 h4 h5 hq
  go_enter Tryz.func33, Tryz.ntmps33
  go_wp2_with fail
  go_region_law (first
    | (refine step_append_lies _ rfl (.tmp 10) (.tmp 12) 31 rfl B 5 i0 (.int .u8 0) 1 1 Tryz.underlying31 hi0 hz0 hz1 hz2 rfl (by decide) v n (vals m) rfl (own_below H3.out HB1.out) ⟨g1, 0, none⟩ q cap1 (vals (enc x)) rfl (by rw [vals_length, HQ.out, Nat.mul_one]) (HO1.out.cells rfl) (vals_one _) hel0 (by simp only [maxLen]; omega) (by omega) (Nat.le_trans (by omega) HB1.out.size) _ rfl ?_
       intro g2 cap2 w2 hown2 hgrow2 hat2 hlt2
       have k2 : At w2 g 33 #[v] := (H1.out.below HB1.out hgl).kept hgrow2 (own_ne (H1.out.below HB1.out hgl) (own_below H3.out HB1.out))
       have e2 := k2.cell 0
       have z2 := k2.frozen 0
       simp at e2
       have HO2 := Lib.hid hown2
       have HG2 := Lib.hid hgrow2
       have HA2 := Lib.hid hat2
       clear k2 hown2 hgrow2 hat2)
    | (go_simp; go_at_call 60; refine (append_any _ none [] 0 0 x rfl (Bytes.none_ _ _ _) (by omega) hx).mono ?_; rintro r w1 ⟨g1, cap1, n1, rfl, hn1, hg1, ho1, hb1⟩
       obtain rfl : q = n1 := HQ.out.symm.trans hn1
       have hb2 := below_undrew hb1
       have k1 : At w1 g 33 #[v] := H1.out.below hb2 hgl
       have e1 := k1.cell 0
       have z1 := k1.frozen 0
       simp at e1
       have HO1 := Lib.hid ho1
       have HB1 := Lib.hid hb2
       clear hn1 ho1 hb1 k1 hg1 hb2))
  all_goals
    go_end0
    exact wrote H1.out H3.out (small_append H5.out (enc_small x)) h6 HB1.out HG2.out HO2.out HA2.out (by rw [List.length_append, H4.out, HQ.out])

/-- a text's bytes. -/
def sb (s : ByteArray) : List Nat := s.data.toList.map UInt8.toNat
theorem sb_length (s : ByteArray) : (sb s).length = s.size := by unfold sb; rw [List.length_map, Array.length_toList]; rfl
theorem sb_small (s : ByteArray) : Small (sb s) := by
  intro x hx
  obtain ⟨y, _, rfl⟩ := List.mem_map.1 hx
  exact y.toNat_lt
theorem vals_sb (s : ByteArray) : vals (sb s) = Lib.strCells s := by unfold vals sb Lib.strCells; rw [List.map_map]; rfl
/-- append of a text, and where the new row lies. -/
theorem str_lies (w : World) (B g n cap : Nat) (xs : List Value) (s : ByteArray) (ho : w.ownsRow B 5 1 (.slice (some ⟨g, 0, none⟩) n cap) n xs) (hl : n + s.size ≤ 140737488355328) (hB : B ≤ w.heap.size) :
    ∃ g2 cap2 w', (Builtin.append_ #[31, 9] 31 #[.slice (some ⟨g, 0, none⟩) n cap, .string s]).run Tryz.prog w = .ok (.slice (some ⟨g2, 0, none⟩) (n + s.size) cap2) w' ∧
      w'.ownsRow B 5 1 (.slice (some ⟨g2, 0, none⟩) (n + s.size) cap2) (n + s.size) (xs ++ Lib.strCells s) ∧ w.grownBy w' (some g) ∧ (some g = some g2 ∨ g2 = w.heap.size) := by
  obtain ⟨i0, hi0, hz0, hz1, hz2⟩ := info_parts byte_info
  obtain ⟨v', w', hr, h2, h3, _⟩ := Lib.run_append_own_string (P := Tryz.prog) w B 31 9 31 5 i0 Tryz.underlying31 Tryz.underlying9 hi0 hz0 hz1 hz2 _ n xs ho s (by simp only [maxLen]; omega) hl hB
  have hc := ho.cells (g := g) rfl
  have hx := ho.1
  rcases ho.2 with ⟨e, _⟩ | ⟨g', cap', cur, e, hbg, hg, hnc, hcm, hcs, htake⟩
  · cases e
  cases e
  by_cases hroom : n + s.size ≤ cap
  · have hr2 := Lib.run_append_room_string (P := Tryz.prog) w 31 9 31 5 i0 Tryz.underlying31 Tryz.underlying9 hi0 hz1 g n cap cur hg s hroom (by omega)
    rw [hr] at hr2
    cases hr2
    exact ⟨g, cap, _, hr, h2, h3, .inl rfl⟩
  · have hr2 := Lib.run_append_grow_string (P := Tryz.prog) w 31 9 31 5 i0 (.int .u8 0) Tryz.underlying31 Tryz.underlying9 hi0 hz0 ⟨g, 0, none⟩ n cap xs (by rw [hz1]; exact hx) hc s (by omega) (by omega) (by rw [hz2]; exact growslice_fits (by omega) (by omega))
    rw [hr] at hr2
    cases hr2
    exact ⟨w.heap.size, _, _, hr, h2, h3, .inr rfl⟩
theorem wpList_str_lies {ops : Array Oper} {rest : List Oper} {o : Oper} {a : Act} {Q : Exit → Act → World → Prop} (hgd : o.guard = none) (sl x : Operand) (hop : o.op = .call { callee := .builtin .append, args := #[sl, x], argTypes := #[31, 9] }) (hty : o.type = 31)
    (w : World) (B g n cap : Nat) (xs : List Value) (s : ByteArray) (hs : a.eval sl = .slice (some ⟨g, 0, none⟩) n cap) (hx : a.eval x = .string s) (ho : w.ownsRow B 5 1 (.slice (some ⟨g, 0, none⟩) n cap) n xs) (hl : n + s.size ≤ 140737488355328) (hB : B ≤ w.heap.size)
    (h : ∀ g2 cap2 w', w'.ownsRow B 5 1 (.slice (some ⟨g2, 0, none⟩) (n + s.size) cap2) (n + s.size) (xs ++ Lib.strCells s) → w.grownBy w' (some g) → (some g = some g2 ∨ g2 = w.heap.size) → wpList Tryz.prog ops Q rest (a.put o.dst (.slice (some ⟨g2, 0, none⟩) (n + s.size) cap2)) w') :
    wpList Tryz.prog ops Q (o :: rest) a w := by
  refine wpList_plain hgd fun K hK => ?_
  obtain ⟨g2, cap2, w', hr, h2, h3, h4⟩ := str_lies w B g n cap xs s ho hl hB
  rw [← hty] at hr
  unfold Oper.wp execOp
  simp only [hop, resolve, invoke, builtin, Sem.run_bind, Sem.run_pure, Result.andThen_ok, List.map_toArray, List.map_cons, List.map_nil, hs, hx]
  rw [hty] at hr ⊢
  rw [hr]
  exact hK _ _ (h g2 cap2 w' h2 h3 h4)
theorem enc_pos (x : Nat) : 0 < (enc x).length := by rw [enc_length]; omega
theorem two_trans {w w1 w2 : World} {g : Nat} {rb rb1 : Option Nat} (h : Two w w1 g rb) (k : Two w1 w2 g rb1) (hr : rb1 = rb ∨ ∀ k, rb1 = some k → w.heap.size ≤ k) : Two w w2 g rb := by
  refine ⟨k.os.trans h.os, k.tape.trans h.tape, k.output.trans h.output, Nat.le_trans h.size k.size, fun i hi hg hrb => ?_⟩
  rw [k.block i (Nat.lt_of_lt_of_le hi h.size) hg ?_, h.block i hi hg hrb]
  intro e
  rcases hr with e1 | e1
  · exact hrb (e.trans e1)
  · have := e1 i e.symm; omega

end Go.Proofs.YtmhghgogehmehaaGreat.Nu

/- The contracts of the document's PutDot and PutDots of layer dcode. -/
namespace Go.Proofs.YtmhghgogehmehaaGreat.Dc
open Go.ChangeShapes Go.WideShapes Go.ChangeAt Go.RowKit
set_option linter.unusedVariables false
set_option maxRecDepth 4000

theorem below_new (w : World) (o : Obj) : Below w.heap.size w (w.alloc o) := (Below.refl _ _).alloc (Nat.le_refl _) o
theorem alloc_size (w : World) (o : Obj) : (w.alloc o).heap.size = w.heap.size + 1 := by simp
theorem bel_drew {w W : World} {B : Nat} (h : Below B w W) : Below B w W.drew := h.drew
theorem bel_alloc {w W : World} (o : Obj) (h : Below w.heap.size w W) : Below w.heap.size w (W.alloc o) := h.alloc h.size o
/-- bytes in memory. -/
structure BL (w : World) (A : Option Addr) (l : List Nat) (n c : Nat) : Prop where
  len : l.length = n
  nil : A = none → n = 0 ∧ c = 0
  cap : n ≤ c
  max : c ≤ 9223372036854775807
  at_ : Nu.Bytes w w.heap.size A l
theorem BL.up {w W : World} {A : Option Addr} {l : List Nat} {n c : Nat} (h : BL w A l n c) (hW : Below w.heap.size w W) : BL W A l n c := ⟨h.len, h.nil, h.cap, h.max, h.at_.up hW⟩
theorem BL.none_ (w : World) : BL w none [] 0 0 := ⟨rfl, fun _ => ⟨rfl, rfl⟩, Nat.le_refl _, by decide, Nu.Bytes.none_ _ _ _⟩
/-- bytes come out. -/
def BPost (w : World) (m : List Nat) (e : Ending) (w' : World) : Prop := ∃ A n c, e = .returned (.slice A n c) ∧ BL w' A m n c ∧ Below w.heap.size w w'
theorem post_bytes {w w' : World} {m : List Nat} {e : Ending} (hs : Nu.Small m) (h : Nu.AppPost w m e w') : BPost w m e w' := by
  obtain ⟨g, cap, n, rfl, hn, hg, ho, hb⟩ := h
  obtain ⟨h1, h2, h3⟩ := Dt.own_len ho
  exact ⟨_, n, cap, rfl, ⟨hn, h3, h1, h2, Nu.bytes_own ho hs⟩, hb⟩
/-- a number more, met later. -/
theorem app_later {w W : World} {A : Option Addr} {l : List Nat} {n c v : Nat} (h : BL w A l n c) (hn : n ≤ 140737488351232) (hv : v < big) (hW : Below w.heap.size w W) :
    Calls Tryz.prog 39 #[.slice A n c, .int .u64 (v : Int)] W fun e V => ∃ A' n' c', e = .returned (.slice A' n' c') ∧ BL V A' (l ++ Nu.enc v) n' c' ∧ Below w.heap.size w V := by
  refine (Nu.rappend_any W A l n c v h.len h.nil (h.up hW).at_ hn hv).mono ?_
  intro e V hp
  obtain ⟨A', n', c', rfl, h1, h2⟩ := post_bytes (Nu.small_append h.at_.1 (Nu.enc_small _)) hp
  exact ⟨A', n', c', rfl, h1, hW.trans (h2.mono hW.size)⟩
/-- a number more behind what another call made, both told from the same world on. -/
theorem app_from {w1 V W : World} {A : Option Addr} {l : List Nat} {n c v : Nat} (h : BL V A l n c) (hB : Below w1.heap.size w1 V) (hn : n ≤ 140737488351232) (hv : v < big) (hW : Below V.heap.size V W) :
    Calls Tryz.prog 39 #[.slice A n c, .int .u64 (v : Int)] W fun e U => ∃ A' n' c', e = .returned (.slice A' n' c') ∧ BL U A' (l ++ Nu.enc v) n' c' ∧ Below w1.heap.size w1 U := by
  refine (app_later h hn hv hW).mono ?_
  rintro e U ⟨A', n', c', rfl, h1, h2⟩
  exact ⟨A', n', c', rfl, h1, hB.trans (h2.mono hB.size)⟩
theorem len_more {l : List Nat} {n n' v : Nat} (h : l.length = n) (h2 : (l ++ Nu.enc v).length = n') (hn : n ≤ 70368744177664) : n' ≤ 140737488351232 := by
  have := enc_le v
  rw [List.length_append] at h2
  omega
/-- a dot's box. -/
abbrev dbox (d : Dot) : Obj := .cells #[.int .u16 (d.1 : Int), .int .u64 (d.2 : Int)] 25
abbrev dval (d : Dot) : Value := .agg #[.int .u16 (d.1 : Int), .int .u64 (d.2 : Int)]
theorem dbox_new (w : World) (d : Dot) (V : World) (hb : Below (w.heap.size + 1) (w.alloc (dbox d)) V) : V.cell? ⟨w.heap.size, 0, none⟩ = some (.int .u16 (d.1 : Int)) ∧ V.cell? ⟨w.heap.size, 1, none⟩ = some (.int .u64 (d.2 : Int)) :=
  ⟨(hb.cell (p := ⟨w.heap.size, 0, none⟩) (Nat.lt_succ_self _)).trans (by rw [World.cell?_alloc_mark]; rfl), (hb.cell (p := ⟨w.heap.size, 1, none⟩) (Nat.lt_succ_self _)).trans (by rw [World.cell?_alloc_mark]; rfl)⟩

set_option maxHeartbeats 4000000 in
theorem rputdot_any (w : World) (A : Option Addr) (l : List Nat) (n c : Nat) (d : Dot) (h : BL w A l n c) (hn : n ≤ 70368744177664) (hd : d.1 < 65536) (hd2 : d.2 < big) :
    Calls Tryz.prog 13 #[.slice A n c, dval d] w (BPost w (l ++ dotB d)) := by
  have HB := Lib.hid (below_new w (dbox d))
  have H := Lib.hid (h.up HB.out)
  have hw : (IntKind.u64.wrap (d.1 : Int)) = (d.1 : Int) := by rw [IntKind.wrap_u64]; omega
  have HK : Hid (∀ V, Below (w.alloc (dbox d)).heap.size (w.alloc (dbox d)) V → V.cell? ⟨w.heap.size, 0, none⟩ = some (.int .u16 (d.1 : Int)) ∧ V.cell? ⟨w.heap.size, 1, none⟩ = some (.int .u64 (d.2 : Int))) := Lib.hid (fun V hV => dbox_new w d V (by rw [alloc_size] at hV; exact hV))
  clear h
  go_enter Tryz.func13, Tryz.ntmps13
  go_wp2_with fail
  generalize w.alloc (dbox d) = w1 at *
  obtain ⟨k0, k1⟩ := HK.out w1 (Below.refl _ _)
  have hb1 : d.1 < big := by show d.1 < 18446744073709551616; omega
  have C1 := fun W (hW : Below w1.heap.size w1 W) => app_later H.out (by omega) hb1 hW
  have hnn : n ≤ 70368744177664 := hn
  have hln := Lib.hid H.out.len
  clear H
  go_region_held3 (fun V => V.cell? ⟨w.heap.size, 0, none⟩ = some (.int .u16 (d.1 : Int)) ∧ V.cell? ⟨w.heap.size, 1, none⟩ = some (.int .u64 (d.2 : Int))) (first | go_keep | assumption | exact HK.out _ (by (repeat (first | exact Below.refl _ _ | assumption | apply bel_drew)))) (first
    | (go_at_call 39; (with_reducible refine (C1 _ ?_).mono ?_); (repeat (first | exact Below.refl _ _ | assumption | apply bel_drew)); rintro e V ⟨A', n', c', rfl, hV, bv⟩; have k2 := HK.out V bv)
    | (go_at_call 39; (with_reducible refine (app_from hV bv (len_more hln.out hV.len hnn) hd2 ?_).mono ?_); (repeat (first | exact Below.refl _ _ | assumption | apply bel_drew)); rintro e U ⟨A2, n2, c2, rfl, hU, bu⟩; have k3 := HK.out U bu))
  all_goals
    go_wp2
    go_ret
    exact ⟨A2, n2, c2, rfl, by unfold dotB; rw [← List.append_assoc]; exact hU, HB.out.trans (bu.mono HB.out.size)⟩

theorem some_next {l : List Dot} {k : Nat} {x : Dot} (h : l[k]? = some x) : someD (l.take (k + 1)) = if Dt.mayD x = true then Dt.putD (someD (l.take k)) x else someD (l.take k) := by
  unfold someD Dt.sortD
  rw [Dt.filter_next _ h, List.foldl_append]
  by_cases hm : Dt.mayD x = true
  · rw [if_pos hm, if_pos hm]; rfl
  · rw [if_neg hm, if_neg hm]; rfl
theorem some_fit {l : List Dot} (h : Dt.Fit l) (k : Nat) : Dt.Fit (someD (l.take k)) ∧ (someD (l.take k)).length ≤ k := by
  refine ⟨fun x hx => ?_, ?_⟩
  · have h2 := (Dt.sort_mem ((l.take k).filter Dt.mayD) x).1 hx
    exact h x (List.mem_of_mem_take (List.mem_filter.1 h2).1)
  · have := some_len (l.take k)
    rw [List.length_take] at this
    omega
theorem p_skip {w1 wr V : World} {n k m c : Nat} {A : Option Addr} {f : Nat → List Dot} (hk : k < n) (hs : f (k + 1) = f k) (hm : (f k).length = m) (ho : wr.ownsRow w1.heap.size 25 2 (.slice A m c) m (Dt.dv (f k))) (hb : Below w1.heap.size w1 wr) (hV : Below wr.heap.size wr V) :
    Dt.PRel w1 n f (.slice A m c) (.int .i64 ((k : Int) + 1)) V :=
  ⟨k + 1, m, A, c, hk, rfl, by go_num, by rw [hs]; exact hm, by rw [hs]; exact Dt.own_kept ho hV, hb.trans (hV.mono hb.size)⟩

/-- what stands between two rounds of PutDots. -/
theorem dots_next {l : List Nat} {U : List Dot} {k : Nat} {x : Dot} (h : U[k]? = some x) : l ++ Nu.enc U.length ++ (U.take (k + 1)).flatMap dotB = l ++ Nu.enc U.length ++ (U.take k).flatMap dotB ++ dotB x := by
  rw [flat_snoc h, List.append_assoc (l ++ Nu.enc U.length)]
theorem put_len {l : List Nat} {U : List Dot} {k n n3 : Nat} (h : l.length = n) (h2 : (l ++ Nu.enc U.length ++ (U.take k).flatMap dotB).length = n3) (hn : n ≤ 1099511627776) (hU : U.length ≤ 1099511627776) : n3 ≤ 70368744177664 := by
  have h3 := enc_le U.length
  have h4 := flat_le (f := dotB) (k := 18) dotB_le (U.take k)
  have h5 : (U.take k).length ≤ U.length := by rw [List.length_take]; omega
  rw [List.length_append, List.length_append] at h2
  omega
set_option maxHeartbeats 8000000 in
theorem rputdots_any (w : World) (A : Option Addr) (l : List Nat) (n c : Nat) (A0 : Option Addr) (L : List Dot) (n0 c0 : Nat) (h : BL w A l n c) (hn : n ≤ 1099511627776) (hl : L.length = n0) (hd : Dt.Dots w w.heap.size A0 L) (h40 : n0 ≤ 1099511627776) :
    Calls Tryz.prog 14 #[.slice A n c, .slice A0 n0 c0] w (BPost w (l ++ dotsB (someD L))) := by
  have H := Lib.hid h
  have HL := Lib.hid hl
  have H1 := Lib.hid hd
  have HF := Lib.hid (fun k => some_fit hd.1 k)
  clear h hl hd
  go_enter Tryz.func14, Tryz.ntmps14
  go_wp2_with fail
  go_loopw [5, 6] (fun v i wr => Dt.PRel w n0 (fun k => someD (L.take k)) v i wr) (fun _ i _ => n0 - (intOf i).toNat)
  case atStart => exact ⟨0, 0, none, 0, Nat.zero_le _, rfl, rfl, rfl, World.ownsRow_nil _ _ _ _, Below.refl _ _⟩
  case round =>
    obtain ⟨k, m, A1, c1, hk, rfl, rfl, hm, ho, hw⟩ := hrel
    have hmk : m ≤ k := by rw [← hm]; exact (HF.out k).2
    have HM := Lib.hid hm
    have HO := Lib.hid ho
    have HW := Lib.hid hw
    clear hm ho hw
    by_cases hlt : k < n0
    · obtain ⟨ad, x, rfl, hB, hlx, hx1, hx2, hcx⟩ := H1.out.cells (k := k) (by rw [HL.out]; exact hlt)
      have HN := Lib.hid (some_next hlx)
      clear hlx
      obtain ⟨d1, d2⟩ := hcx wr HW.out
      obtain ⟨e1, e2⟩ := hcx (wr.alloc (dbox x)) (bel_alloc _ HW.out)
      have HG := Lib.hid (Dt.rgood_any wr x.1 x.2)
      clear hcx
      cases hmx : Dt.mayD x with
      | false =>
        have HN2 : Hid (someD (L.take (k + 1)) = someD (L.take k)) := Lib.hid (by rw [HN.out, hmx]; rfl)
        rw [show Dt.mayD (x.1, x.2) = false from hmx] at HG
        go_wp2_with fail
        refine HG.out.mono ?_
        rintro e V ⟨rfl, rfl⟩
        have HR := Lib.hid (p_skip (f := fun k => someD (L.take k)) hlt HN2.out HM.out HO.out HW.out (below_new wr (dbox x)))
        clear d1 d2 e1 e2
        go_wp2
        go_roundw
        case rel => exact HR.out
        case measure => simp [intOf]; omega
      | true =>
        have HN2 : Hid (someD (L.take (k + 1)) = Dt.putD (someD (L.take k)) x) := Lib.hid (by rw [HN.out, hmx]; rfl)
        rw [show Dt.mayD (x.1, x.2) = true from hmx] at HG
        have HB1 := Lib.hid (below_new wr (dbox x))
        have HP := Lib.hid (Dt.rput_any (wr.alloc (dbox x)) A1 (someD (L.take k)) m c1 x HM.out (Dt.dots_own (Dt.own_kept HO.out HB1.out) (HF.out k).1) (by omega))
        go_wp2_with fail
        refine HG.out.mono ?_
        rintro e V ⟨rfl, rfl⟩
        clear d1 d2
        go_wp2_with fail
        refine HP.out.mono ?_
        rintro e V ⟨A3, m3, c3, rfl, hm3, ho3, hb3⟩
        have HW3 := HW.out.trans ((HB1.out.trans (hb3.mono HB1.out.size)).mono HW.out.size)
        have HR := Lib.hid (Dt.p_rel (f := fun k => someD (L.take k)) hlt HN2.out hm3 (Dt.own_less ho3 (Nat.le_trans HW.out.size HB1.out.size)) HW3)
        clear hm3 ho3 hb3 e1 e2 HW3
        go_wp2
        go_roundw
        case rel => exact HR.out
        case measure => simp [intOf]; omega
    · obtain rfl : n0 = k := by omega
      have e : Hid (L.take n0 = L) := Lib.hid (List.take_of_length_le (by rw [HL.out]; exact Nat.le_refl _))
      have HF2 := Lib.hid (HF.out n0)
      simp only [e.out] at HM HO HF2
      obtain ⟨U, hU⟩ : ∃ U, someD L = U := ⟨_, rfl⟩
      rw [hU] at HM HO HF2
      have HU := Lib.hid hU
      clear hU HF e H1 HL
      have HD := Lib.hid (Dt.dots_own HO.out HF2.out.1)
      have hul : U.length ≤ 1099511627776 := by have := HF2.out.2; omega
      have hmb : m < big := by show m < 18446744073709551616; omega
      have hwr : IntKind.u64.wrap (m : Int) = (m : Int) := by rw [IntKind.wrap_u64]; omega
      have CA := app_later (v := m) (H.out.up HW.out) (by omega) hmb (Below.refl _ wr)
      go_wp2_with fail
      refine CA.mono ?_
      rintro e V ⟨A2, n2, c2, rfl, hV, hbV⟩
      have HV := Lib.hid hV
      have HBV := Lib.hid hbV
      clear hV hbV CA
      go_wp2_with fail
      go_loopw [7, 8] (fun v i wq => ∃ (k : Nat) (A3 : Option Addr) (n3 c3 : Nat), k ≤ m ∧ i = .int .i64 (k : Int) ∧ v = .slice A3 n3 c3 ∧ BL wq A3 (l ++ Nu.enc U.length ++ (U.take k).flatMap dotB) n3 c3 ∧ Below wr.heap.size wr wq) (fun _ i _ => m - (intOf i).toNat)
      case atStart => exact ⟨0, A2, n2, c2, Nat.zero_le _, rfl, rfl, by rw [List.take_zero, List.flatMap_nil, List.append_nil, HM.out]; exact HV.out, HBV.out⟩
      case round =>
        clear HV HBV
        obtain ⟨k, A3, n3, c3, hk3, rfl, rfl, h3, hb3⟩ := hrel
        have H3 := Lib.hid h3
        have HB3 := Lib.hid hb3
        clear h3 hb3
        by_cases hlt2 : k < m
        · obtain ⟨ad, x, rfl, hB, hlx, hx1, hx2, hcx⟩ := HD.out.cells (k := k) (by rw [HM.out]; exact hlt2)
          have HN := Lib.hid (dots_next (l := l) hlx)
          clear hlx
          obtain ⟨d1, d2⟩ := hcx wr HB3.out
          have CP := rputdot_any wr A3 _ n3 c3 x H3.out (put_len H.out.len H3.out.len hn hul) hx1 hx2
          clear hcx
          go_wp2_with fail
          refine CP.mono ?_
          rintro e V ⟨A4, n4, c4, rfl, h4, hb4⟩
          have H4 := Lib.hid h4
          have HB4 := Lib.hid (HB3.out.trans (hb4.mono HB3.out.size))
          clear h4 hb4 CP d1 d2
          go_wp2
          go_roundw
          case rel => exact ⟨k + 1, A4, n4, c4, hlt2, by go_num, rfl, by rw [HN.out]; exact H4.out, HB4.out⟩
          case measure => simp [intOf]; omega
        · obtain rfl : k = m := by omega
          go_wp2
          go_ret
          rw [HU.out]
          refine ⟨A3, n3, c3, rfl, ?_, HW.out.trans (HB3.out.mono HW.out.size)⟩
          have h := H3.out
          rw [List.take_of_length_le (by rw [HM.out]; exact Nat.le_refl _)] at h
          unfold dotsB
          rw [← List.append_assoc]
          exact h
end Go.Proofs.YtmhghgogehmehaaGreat.Dc

/- The contracts of pack's writer, going on: Bytes; the law's own example; and every method of a nil writer and of a nil reader. -/
namespace Go.Proofs.YtmhghgogehmehaaGreat.Nu
open Go.ChangeShapes Go.WideShapes Go.ChangeAt Go.RowKit
set_option linter.unusedVariables false
set_option maxRecDepth 4000

theorem below_two {w w' : World} {B g : Nat} {rb : Option Nat} (h : Two w w' g rb) (hg : B ≤ g) (hr : ∀ k, rb = some k → B ≤ k) (hB : B ≤ w.heap.size) : Below B w w' :=
  ⟨h.os, h.tape, h.output, h.size, fun k hk => h.block k (by omega) (by omega) (fun e => by have := hr k e.symm; omega)⟩
theorem PW.row {w : World} {B g : Nat} {rb : Option Nat} {m : List Nat} (h : PW w B g rb m) : ∀ k, rb = some k → B ≤ k ∧ k < w.heap.size := by
  obtain ⟨v, n, h1, rfl, h3, _⟩ := h
  exact h3.lt
theorem PW.base {w : World} {B g : Nat} {rb : Option Nat} {m : List Nat} (h : PW w B g rb m) : B ≤ g ∧ g < w.heap.size := by
  obtain ⟨v, n, h1, rfl, h3, _, _, h6⟩ := h
  exact ⟨h6, h1.lt⟩
theorem PW.small {w : World} {B g : Nat} {rb : Option Nat} {m : List Nat} (h : PW w B g rb m) : Small m := by
  obtain ⟨v, n, h1, rfl, h3, _, h5, h6⟩ := h
  exact h5
theorem PW.new (w : World) : PW (w.alloc (.cells #[.slice none 0 0] 33)) w.heap.size w.heap.size none [] :=
  ⟨.slice none 0 0, 0, At.new _ _ _, rfl, World.ownsRow_nil _ _ _ _, rfl, fun x hx => (by cases hx), Nat.le_refl _⟩
theorem wbytes_any (w : World) (B g : Nat) (rb : Option Nat) (m : List Nat) (h : PW w B g rb m) (hm : m.length ≤ 140737488355328) :
    Calls Tryz.prog 12 #[.pointer (some ⟨g, 0, none⟩)] w (ClonePost w m) := by
  obtain ⟨v, n, h1, h1b, h3, h4, h5, h6⟩ := h
  have c0 := h1.cell 0
  simp at c0
  rcases h3.2 with ⟨rfl, rfl⟩ | ⟨g1, cap, cur, rfl, _⟩
  · obtain rfl := List.eq_nil_of_length_eq_zero h4
    clear h1 h1b h3 h4 h5
    go_enter Tryz.func12, Tryz.ntmps12
    go_wp2_with fail
    refine (clone_any w none [] 0 0 rfl (fun _ => ⟨rfl, rfl⟩) (Bytes.none_ _ _ _) (by omega)).mono ?_
    rintro r w' ⟨A, n, c, rfl, hp⟩
    have HP := Lib.hid hp
    clear hp
    go_wp2
    go_ret
    exact ⟨A, n, c, rfl, HP.out⟩
  · have HB := Lib.hid (bytes_own h3 h5)
    have H4 := Lib.hid h4
    rw [h4] at hm
    clear h1 h1b h3 h4 h5
    go_enter Tryz.func12, Tryz.ntmps12
    go_wp2_with fail
    refine (clone_any w (some ⟨g1, 0, none⟩) m n cap H4.out (fun h => (by cases h)) HB.out hm).mono ?_
    rintro r w' ⟨A, n', c, rfl, hp⟩
    have HP := Lib.hid hp
    clear hp
    go_wp2
    go_ret
    exact ⟨A, n', c, rfl, HP.out⟩

def ab : ByteArray := ⟨#[97, 98]⟩
theorem ex_bytes : ([] ++ enc 258) ++ (enc ab.size ++ sb ab) = [2, 1, 2, 1, 2, 97, 98] := by decide

theorem nil25 (w : World) (x : Int) : Calls Tryz.prog 33 #[.pointer none, .int .u64 x] w fun r w' => r = .returned (.tuple #[]) ∧ w = w' := by
  go_enter Tryz.func33, Tryz.ntmps33
  go_wp2
  refine bodyPost_ret (results_none rfl _ _ _) rfl ?_
  exact ⟨rfl, rfl⟩
theorem nil17 (w : World) (x : Int) : Calls Tryz.prog 44 #[.pointer none, .int .i64 x] w fun r w' => r = .returned (.tuple #[]) ∧ w = w' := by
  go_enter Tryz.func44, Tryz.ntmps44
  go_wp2
  refine bodyPost_ret (results_none rfl _ _ _) rfl ?_
  exact ⟨rfl, rfl⟩
theorem nil33 (w : World) : Calls Tryz.prog 12 #[.pointer none] w fun r w' => r = .returned (.slice none 0 0) ∧ w = w' := by
  go_enter Tryz.func12, Tryz.ntmps12
  go_wp2
  go_ret
  exact ⟨rfl, rfl⟩
theorem nil7 (w : World) : Calls Tryz.prog 42 #[.pointer none] w fun r w' => r = .returned (.int .u64 0) ∧ w = w' := by
  go_enter Tryz.func42, Tryz.ntmps42
  go_wp2
  go_ret
  exact ⟨rfl, rfl⟩
theorem nil9 (w : World) (x : Int) : Calls Tryz.prog 68 #[.pointer none, .int .u64 x] w fun r w' => r = .returned (.int .u64 0) ∧ w = w' := by
  go_enter Tryz.func68, Tryz.ntmps68
  go_wp2
  go_ret
  exact ⟨rfl, rfl⟩
theorem nil23 (w : World) : Calls Tryz.prog 71 #[.pointer none] w fun r w' => r = .returned (.int .i64 1) ∧ w = w' := by
  go_enter Tryz.func71, Tryz.ntmps71
  go_wp2
  go_ret
  exact ⟨rfl, rfl⟩
theorem nil19 (w : World) : Calls Tryz.prog 26 #[.pointer none] w fun r w' => r = .returned (.int .i64 1) ∧ w = w' := by
  go_enter Tryz.func26, Tryz.ntmps26
  go_wp2
  go_ret
  exact ⟨rfl, rfl⟩
end Go.Proofs.YtmhghgogehmehaaGreat.Nu

/- The contract of pack's New: a reader of these bytes in a new block. -/
namespace Go.Proofs.YtmhghgogehmehaaGreat.Nu
open Go.ChangeShapes Go.WideShapes Go.ChangeAt Go.RowKit
set_option linter.unusedVariables false
set_option maxRecDepth 4000

/-- a new reader of these bytes. -/
def NewPost (w : World) (l : List Nat) (r : Ending) (w' : World) : Prop :=
  ∃ g, r = .returned (.pointer (some ⟨g, 0, none⟩)) ∧ w.heap.size ≤ g ∧ PR w' g g l 0 ∧ Below w.heap.size w w'
theorem new_any (w : World) (A : Option Addr) (l : List Nat) (n c : Nat) (hn : l.length = n) (hA : A = none → n = 0 ∧ c = 0) (hb : Bytes w w.heap.size A l) (hl : n ≤ 140737488355328) :
    Calls Tryz.prog 17 #[.slice A n c] w (NewPost w l) := by
  have hB := Lib.hid hb
  have HN := Lib.hid hn
  have HA := Lib.hid hA
  clear hb hn hA
  go_enter Tryz.func17, Tryz.ntmps17
  go_wp2_with fail
  refine (clone_any w A l n c HN.out HA.out hB.out hl).mono ?_
  rintro r w' ⟨A', n', c', rfl, h1, h2, h3, h4, h5, h6, _⟩
  have H1 := Lib.hid h1
  have H2 := Lib.hid h2
  have H5 := Lib.hid h5
  have H6 := Lib.hid h6
  clear h1 h2 h5 h6
  go_wp2
  go_ret
  refine ⟨w'.heap.size, rfl, H6.out.size, ⟨A', n', c', At.new _ _ _, (H2.out.below (below_new w' _)), H1.out, h3, h4, H5.out, fun h => absurd rfl h⟩, H6.out.alloc H6.out.size _⟩
end Go.Proofs.YtmhghgogehmehaaGreat.Nu

/- The contract of the document's 'set': what two lists of runs come to. Condition: at most 32768 runs on either side. -/
namespace Go.Proofs.YtmhghgogehmehaaGreat.Ru
open Go.ChangeShapes Go.WideShapes Go.ChangeAt Go.RowKit
set_option linter.unusedVariables false

theorem addR_length (o : List Run) (p q : Nat) : (addR o p q).length ≤ o.length + 1 := by
  unfold addR
  split
  · rename_i r h
    split
    · have hne : o ≠ [] := fun e => by rw [e] at h; simp at h
      rw [List.length_append, List.length_dropLast, List.length_singleton]
      have : 0 < o.length := List.length_pos_iff.2 hne
      omega
    · rw [List.length_append]; simp
  · simp
theorem stF_length (a b : List Run) (how : Int) (P : List Nat) (k : Nat) : (stF a b how P k).length ≤ k := by
  induction k with
  | zero => simp [stF]
  | succ k ih =>
    rw [stF_succ]
    unfold stS
    split
    · have := addR_length (stF a b how P k) (P.getD k 0) (P.getD (k + 1) 0)
      omega
    · omega
theorem getD_some {P : List Nat} {i p : Nat} (h : P[i]? = some p) : P.getD i 0 = p := by
  rw [List.getD_eq_getElem?_getD, h]; rfl

theorem putL_bound {l : List Nat} {n : Nat} (C : Nat → Prop) (hl : ∀ x ∈ l, C x) (hn : C n) : ∀ x ∈ putL l n, C x := by
  have key : ∀ (l : List Nat), (∀ x ∈ l, C x) → ∀ s : List Nat × Bool, (∀ x ∈ s.1, C x) → ∀ x ∈ (l.foldl (putS n) s).1, C x := by
    intro l
    induction l with
    | nil => intro _ s hs; exact hs
    | cons y l ih =>
      intro h s hs
      rw [List.foldl_cons]
      refine ih (fun x hx => h x (by simp [hx])) _ ?_
      have hy : C y := h y (by simp)
      unfold putS
      intro x hx
      split at hx <;> split at hx <;> simp at hx
      all_goals (first
        | (rcases hx with hx | rfl | rfl <;> first | exact hs x hx | exact hn | exact hy)
        | (rcases hx with hx | rfl <;> first | exact hs x hx | exact hn | exact hy)
        | exact hs x hx)
  have h1 := key l hl ([], false) (fun x hx => by cases hx)
  unfold putL
  split
  · exact h1
  · intro x hx
    rcases List.mem_append.1 hx with hx | hx
    · exact h1 x hx
    · obtain rfl := List.mem_singleton.1 hx
      exact hn
/-- points lie from 1 to 2^48. -/
theorem ptL_bound (l : List Run) : ∀ x ∈ ptL l, 1 ≤ x ∧ x ≤ 281474976710656 := by
  suffices h : ∀ o : List Nat, (∀ x ∈ o, 1 ≤ x ∧ x ≤ 281474976710656) → ∀ x ∈ l.foldl ptS o, 1 ≤ x ∧ x ≤ 281474976710656 from h [] (fun x hx => by cases hx)
  induction l with
  | nil => intro o ho; exact ho
  | cons r l ih =>
    intro o ho
    rw [List.foldl_cons]
    refine ih _ ?_
    unfold ptS
    split
    · rename_i hm
      have := of_decide_eq_true hm
      exact putL_bound _ (putL_bound _ ho (by omega)) (by omega)
    · exact ho

def RunPost (w : World) (m : List Run) (e : Ending) (w' : World) : Prop :=
  ∃ A n c, e = .returned (.slice A n c) ∧ m.length = n ∧ w'.ownsRow w.heap.size 73 2 (.slice A n c) n (rv m) ∧ Below w.heap.size w w'
theorem has_later (w W : World) (A : Option Addr) (l : List Run) (len c n : Nat) (b : Bool) (hl : l.length = len) (hb : Runs w w.heap.size A l) (h63 : len ≤ 9223372036854775807) (hn : n < 18446744073709551616) (hbe : has l n = b) (bel : Below w.heap.size w W) :
    Calls Tryz.prog 117 #[.slice A len c, .int .u64 (n : Int)] W fun e w' => e = .returned (.bool b) ∧ Below w.heap.size w w' := by
  subst hbe
  refine (has_any W w.heap.size A l len c n hl (hb.below bel) bel.size h63 hn).mono ?_
  rintro e w' ⟨rfl, hb'⟩
  exact ⟨rfl, bel.trans (hb'.mono bel.size)⟩
theorem bel_drew {w W : World} (h : Below w.heap.size w W) : Below w.heap.size w W.drew := h.drew

def Low (o : List Run) : Prop := ∀ r ∈ o, r.1 ≤ 281474976710656 ∧ r.2 ≤ 281474976710656
theorem addR_nil (p q : Nat) : addR [] p q = [(p, q - 1)] := rfl
theorem addR_last (o : List Run) (lo hi p q : Nat) : addR (o ++ [(lo, hi)]) p q = if hi + 1 = p then o ++ [(lo, q - 1)] else o ++ [(lo, hi)] ++ [(p, q - 1)] := by
  unfold addR
  rw [List.getLast?_append]
  simp only [List.getLast?_singleton, Option.some_or, List.dropLast_concat]
theorem last_of {o : List Run} {z : Nat} (h : o.length = z + 1) : ∃ o' lo hi, o = o' ++ [(lo, hi)] ∧ o'.length = z := by
  have hne : o ≠ [] := fun e => by rw [e] at h; simp at h
  refine ⟨o.dropLast, (o.getLast hne).1, (o.getLast hne).2, (List.dropLast_concat_getLast hne).symm, by rw [List.length_dropLast]; omega⟩
theorem low_last {o : List Run} {lo hi : Nat} (h : Low (o ++ [(lo, hi)])) : lo ≤ 281474976710656 ∧ hi ≤ 281474976710656 := h (lo, hi) (by simp)
theorem low_snoc {o : List Run} {lo hi : Nat} (h : Low o) (h1 : lo ≤ 281474976710656) (h2 : hi ≤ 281474976710656) : Low (o ++ [(lo, hi)]) := fun r hr => by
  rcases List.mem_append.1 hr with hr | hr
  · exact h r hr
  · obtain rfl := List.mem_singleton.1 hr
    exact ⟨h1, h2⟩
theorem low_init {o : List Run} {r : Run} (h : Low (o ++ [r])) : Low o := fun x hx => h x (List.mem_append_left _ hx)
theorem rv_snoc (o : List Run) (lo hi : Nat) : rv (o ++ [(lo, hi)]) = rv o ++ [.int .u64 (lo : Int), .int .u64 (hi : Int)] := rv_append o [(lo, hi)]
theorem rv_set_last (o : List Run) (lo hi v z : Nat) (h : o.length = z) : (rv (o ++ [(lo, hi)])).set (z * 2 + 1) (.int .u64 (v : Int)) = rv (o ++ [(lo, v)]) := by
  have hl : (rv o).length = z * 2 := by rw [rv_length, h]
  rw [rv_snoc, rv_snoc, List.set_append, if_neg (by omega), hl]
  have e : z * 2 + 1 - z * 2 = 1 := by omega
  rw [e]
  rfl
theorem rv_last (o : List Run) (lo hi z : Nat) (h : o.length = z) : (rv (o ++ [(lo, hi)]))[z * 2]? = some (.int .u64 (lo : Int)) ∧ (rv (o ++ [(lo, hi)]))[z * 2 + 1]? = some (.int .u64 (hi : Int)) := by
  refine rv_get (l := o ++ [(lo, hi)]) (r := (lo, hi)) ?_
  rw [List.getElem?_append_right (by omega), h]
  simp
def StRel (w : World) (a b : List Run) (how : Int) (P : List Nat) (len : Nat) (o i : Value) (wr : World) : Prop :=
  ∃ (k m : Nat) (A : Option Addr) (c : Nat), k ≤ len - 1 ∧ i = .int .i64 (k : Int) ∧ o = .slice A m c ∧ (stF a b how P k).length = m ∧ Low (stF a b how P k) ∧ wr.ownsRow w.heap.size 73 2 (.slice A m c) m (rv (stF a b how P k)) ∧ Below w.heap.size w wr
theorem st_rel {w wr : World} {a b : List Run} {how : Int} {P : List Nat} {len k m : Nat} {A : Option Addr} {c : Nat} {o : List Run} (hk : k < len - 1) (hs : stF a b how P (k + 1) = o) (hm : o.length = m) (hf : Low o) (ho : wr.ownsRow w.heap.size 73 2 (.slice A m c) m (rv o)) (hb : Below w.heap.size w wr) :
    StRel w a b how P len (.slice A m c) (.int .i64 ((k : Int) + 1)) wr :=
  ⟨k + 1, m, A, c, hk, by go_num, rfl, by rw [hs]; exact hm, by rw [hs]; exact hf, by rw [hs]; exact ho, hb⟩
theorem st_drewN {w V : World} {a b : List Run} {how : Int} {P : List Nat} {len : Nat} {o i : Value} (h : StRel w a b how P len o i V) (n : Nat) : StRel w a b how P len o i (V.drewN n) := by
  obtain ⟨k, m, A, c, h1, h2, h3, h4, h5, h6, h7⟩ := h
  exact ⟨k, m, A, c, h1, h2, h3, h4, h5, h6, Go.below_drewN h7 n⟩
theorem news_run (W : World) (p q : Nat) (z : Int) (h : z = (q : Int)) : ∀ (j : Nat) (u : Value), (rv [(p, q)])[j]? = some u → (W.alloc (.cells #[.int .u64 (p : Int), .int .u64 z] 73)).cell? ((⟨W.heap.size, 0, none⟩ : Addr).add j) = some u := by
  subst h
  intro j u hu
  rw [zero_add, World.cell?_alloc_new]
  simpa [rv] using hu
theorem run_grown {w wr w2 : World} {v : Value} {m : Nat} {xs : List Value} {o : Obj} (ho : wr.ownsRow w.heap.size 73 2 v m xs) (hb : Below w.heap.size w wr) (hg : (wr.alloc o).grownBy w2 v.ownBlock) : Below w.heap.size w w2 :=
  (hb.alloc hb.size _).grown hg (Nat.le_trans hb.size (by simp)) (fun k hk => (ho.lt k hk).1)
theorem own_drewN {V : World} {B n size : Nat} {e : TypeId} {v : Value} {xs : List Value} (h : V.ownsRow B e size v n xs) (k : Nat) : (V.drewN k).ownsRow B e size v n xs := h
theorem own_drewS {V : World} {B n size : Nat} {e : TypeId} {v : Value} {xs : List Value} (h : V.ownsRow B e size v n xs) (k : Nat) : ((V.drewN k).drew).ownsRow B e size v n xs := h
theorem low_drewS {w V : World} (h : Below w.heap.size w V) (k : Nat) : Below w.heap.size w ((V.drewN k).drew) := (Go.below_drewN h k).drew
theorem lies_num {w : World} {B n c : Nat} {A : Option Addr} {m : List Nat} (h : w.ownsRow B 23 1 (.slice A n c) n (nv m)) (hf : FitN m) : Nums w w.heap.size A m := ⟨hf, lies_any (by decide) h⟩

set_option maxHeartbeats 8000000 in
set_option maxRecDepth 100000 in
theorem set_any (w : World) (A1 A2 : Option Addr) (l1 l2 : List Run) (n1 n2 c1 c2 : Nat) (how : Int) (hl1 : l1.length = n1) (hl2 : l2.length = n2) (hA1 : A1 = none → n1 = 0 ∧ c1 = 0) (hA2 : A2 = none → n2 = 0 ∧ c2 = 0) (hb1 : Runs w w.heap.size A1 l1) (hb2 : Runs w w.heap.size A2 l2) (h1 : n1 ≤ 32768) (h2 : n2 ≤ 32768) (hh : 0 ≤ how ∧ how ≤ 2) :
    Calls Tryz.prog 93 #[.slice A1 n1 c1, .slice A2 n2 c2, .int .i64 how] w (RunPost w (setL l1 l2 how)) := by
  obtain ⟨i0, hi0, hz0, hz1, hz2⟩ := info_parts run_info
  have HL1 := Lib.hid hl1
  have HL2 := Lib.hid hl2
  have HB1 := Lib.hid hb1
  have HB2 := Lib.hid hb2
  have HA1 := Lib.hid hA1
  have HA2 := Lib.hid hA2
  clear hl1 hl2 hA1 hA2 hb1 hb2
  obtain ⟨P, hP⟩ : ∃ P, ptL (l1 ++ l2) = P := ⟨_, rfl⟩
  have PB : Hid (∀ x ∈ P, 1 ≤ x ∧ x ≤ 281474976710656) := by show ∀ x ∈ P, _; rw [← hP]; exact ptL_bound _
  have PF : Hid (FitN P) := fun x hx => by have := PB.out x hx; omega
  have PL : Hid (P.length ≤ 131072) := by
    show _ ≤ _
    rw [← hP]
    have := ptL_length (l1 ++ l2) (l1 ++ l2).length
    rw [List.take_length, List.length_append, HL1.out, HL2.out] at this
    omega
  have HS : Hid (setL l1 l2 how = stF l1 l2 how P (P.length - 1)) := by show _ = _; unfold setL; rw [hP]
  go_enter Tryz.func93, Tryz.ntmps93
  go_wp2_with fail
  refine (points_any w A1 A2 l1 l2 n1 n2 c1 c2 HL1.out HL2.out HA1.out HA2.out HB1.out HB2.out h1 h2).mono ?_
  rw [hP]
  rintro e w1 ⟨AP, np, cp, rfl, hnp, hop, hbp⟩
  have W1 := Lib.hid hbp
  have KP := Lib.hid (lies_num hop PF.out)
  have NP := Lib.hid hnp
  have K1 := Lib.hid (HB1.out.up hbp)
  have K2 := Lib.hid (HB2.out.up hbp)
  have hnp2 : np ≤ 131072 := by rw [← hnp]; exact PL.out
  clear hop hbp hnp hP
  have HR : Hid (StRel w1 l1 l2 how P np (.slice none 0 0) (.int .i64 0) w1) := ⟨0, 0, none, 0, Nat.zero_le _, rfl, rfl, rfl, (fun x hx => by cases hx), World.ownsRow_nil _ _ _ _, Below.refl _ _⟩
  go_wp2_with fail
  go_loopw [8, 9] (fun o i wr => StRel w1 l1 l2 how P np o i wr) (fun _ i _ => np - (intOf i).toNat)
  case atStart => exact HR.out
  case round =>
    clear HR
    obtain ⟨k, m, A, c, hk, rfl, rfl, hm, hf, ho, hb⟩ := hrel
    have HO := Lib.hid ho
    have HW := Lib.hid hb
    have HF := Lib.hid hf
    have HM := Lib.hid hm
    have hmk : m ≤ k := by rw [← hm]; exact stF_length _ _ _ _ _
    clear ho hb hf hm
    by_cases hlt : k + 1 < np
    · obtain ⟨k1, hk1⟩ : ∃ k1, k1 = k + 1 := ⟨_, rfl⟩
      have hk1I : (k : Int) + 1 = (k1 : Int) := by omega
      have hk1n : k1 < np := by omega
      have HK1 := Lib.hid hk1
      obtain ⟨ad, p, rfl, hp, hp64, hcp⟩ := KP.out.at_ (k := k) (by rw [NP.out]; omega)
      obtain ⟨ad2, q, e2, hq, hq64, hcq⟩ := KP.out.at_ (k := k1) (by rw [NP.out]; omega)
      cases e2
      have hpb := PB.out p (List.mem_of_getElem? hp)
      have hqb := PB.out q (List.mem_of_getElem? hq)
      have EP := Lib.hid (getD_some hp)
      have EQ := Lib.hid (getD_some hq)
      rw [HK1.out] at EQ
      have HC : Hid (∀ V, Below w1.heap.size w1 V → V.cell? (ad.add k) = some (.int .u64 (p : Int)) ∧ V.cell? (ad.add k1) = some (.int .u64 (q : Int))) := fun V hV =>
        ⟨(hV.cell (World.block_lt_of_cell? w1 _ hcp)).trans hcp, (hV.cell (World.block_lt_of_cell? w1 _ hcq)).trans hcq⟩
      obtain ⟨q1, q2⟩ := HC.out wr HW.out
      have KA := Lib.hid (K1.out.up HW.out)
      have KB := Lib.hid (K2.out.up HW.out)
      obtain ⟨x, hx⟩ : ∃ x, has l1 p = x := ⟨_, rfl⟩
      obtain ⟨y, hy⟩ : ∃ y, has l2 p = y := ⟨_, rfl⟩
      have HX := Lib.hid hx
      have HY := Lib.hid hy
      have HCR : Hid (∀ V, Below wr.heap.size wr V → V.cell? (ad.add k) = some (.int .u64 (p : Int))) := fun V hV => (HC.out V (HW.out.trans (hV.mono HW.out.size))).1
      clear hp hq hcp hcq hx hy
      have hkn : k < np := by omega
      have hwk : IntKind.i64.wrap (k1 : Int) = (k1 : Int) := by rw [IntKind.wrap_i64]; omega
      have hwq : IntKind.u64.wrap ((q : Int) - 1) = ((q - 1 : Nat) : Int) := by rw [IntKind.wrap_u64]; omega
      have hkl : k < np - 1 := by omega
      clear hk1 hlt hk
      obtain ⟨o, hoe⟩ : ∃ o, stF l1 l2 how P k = o := ⟨_, rfl⟩
      have ES : Hid (∀ b, inB how x y = b → stF l1 l2 how P (k + 1) = if b = true then addR o p q else o) := by
        intro b hb
        rw [stF_succ, hoe]
        unfold stS
        rw [EP.out, EQ.out, HX.out, HY.out, hb]
      rw [hoe] at HO HM HF
      clear hoe
      go_wp2_with fail
      go_region_held3 (fun V => V.cell? (ad.add k) = some (.int .u64 (p : Int))) (first | go_keep | assumption | exact HCR.out _ (by (repeat (first | exact Below.refl _ _ | assumption | apply bel_drew)))) (first
        | (go_at_call 117; (with_reducible refine (has_later wr _ A1 l1 n1 c1 p x HL1.out KA.out (by omega) hp64 HX.out ?_).mono ?_); (repeat (first | exact Below.refl _ _ | assumption | apply bel_drew)); rintro e V ⟨rfl, bv1⟩; have hcV : V.cell? (ad.add k) = some (.int .u64 (p : Int)) := HCR.out V bv1)
        | (go_at_call 117; (with_reducible refine (has_later wr _ A2 l2 n2 c2 p y HL2.out KB.out (by omega) hp64 HY.out ?_).mono ?_); (repeat (first | exact Below.refl _ _ | assumption | apply bel_drew)); rintro e V ⟨rfl, bv2⟩; have hcV : V.cell? (ad.add k) = some (.int .u64 (p : Int)) := HCR.out V bv2))
      all_goals
        have HV0 : Hid (Below wr.heap.size wr V) := by first | exact bv2 | exact bv1
        have HV : Hid (Below w1.heap.size w1 V) := HW.out.trans (HV0.out.mono HW.out.size)
        have HOV := Lib.hid (own_kept HO.out HV0.out)
        obtain ⟨r1, r2⟩ := HC.out V HV.out
        clear hcV
        try clear bv1
        try clear bv2
        have hh3 : how = 0 ∨ how = 1 ∨ how = 2 := by omega
        rcases hh3 with rfl | rfl | rfl <;> cases x <;> cases y
      all_goals (first
        | (have hin := Lib.hid (ES.out false (by decide))
           rw [if_neg (by decide)] at hin
           have HR := Lib.hid (st_rel (len := np) hkl hin.out HM.out HF.out HOV.out HV.out)
           rw [hk1I] at HR
           clear ES
           go_wp2_with fail
           go_quiet (fail)
           go_wp2
           go_roundw
           case rel => exact st_drewN HR.out _
           case measure => simp [intOf]; omega)
        | skip)
      all_goals
        have hin := Lib.hid (ES.out true (by decide))
        rw [if_pos rfl] at hin
        clear ES
        by_cases hm0 : m = 0
        · subst hm0
          have ho0 : Hid (o = []) := List.eq_nil_of_length_eq_zero HM.out
          rw [ho0.out] at hin HOV HF
          rw [addR_nil] at hin
          go_wp2_with fail
          go_quiet (fail)
          go_wp2_with fail
          go_region_law (first
            | (refine step_append_lies _ rfl (.tmp 85) (.tmp 97) 69 rfl w1.heap.size 73 i0 (.agg #[.int .u64 0, .int .u64 0]) 2 16 Tryz.underlying69 hi0 hz0 hz1 hz2 rfl (by decide) (.slice A 0 c) 0 (rv []) rfl (World.ownsRow.alloc (own_drewS HOV.out nq) _) ⟨V.heap.size, 0, none⟩ 1 1 (rv [(p, q - 1)]) rfl rfl (news_run (V.drewN nq).drew p (q - 1) ((q - 1 : Nat) : Int) rfl) (rv_one _) (by decide) (by simp only [maxLen]; omega) (by omega) (Nat.le_trans HV.out.size (by simp)) _ rfl ?_
               intro g2 cap2 w2 ho2 hg2 hat2 hlt2
               rw [← rv_append] at ho2
               have HO2 := Lib.hid ho2
               have HW2 : Hid (Below w1.heap.size w1 w2) := run_grown (own_drewS HOV.out nq) (low_drewS HV.out nq) hg2
               clear ho2 hg2 hat2 hlt2))
          all_goals
            have HR := Lib.hid (st_rel (len := np) hkl hin.out rfl (fun r hr => by obtain rfl := List.mem_singleton.1 hr; exact ⟨by omega, by omega⟩) HO2.out HW2.out)
            rw [hk1I] at HR
            go_wp2
            go_roundw
            case rel => exact HR.out
            case measure => simp [intOf]; omega
        · obtain ⟨z, hz⟩ : ∃ z, m = z + 1 := ⟨m - 1, by omega⟩
          obtain ⟨g, cap', e1, hgw⟩ := own_shape (w := w1) HOV.out (.inl (by omega))
          cases e1
          subst hz
          obtain ⟨o', lo, hi, ho', hz'⟩ := last_of HM.out
          rw [ho'] at HOV HF HM hin
          rw [addR_last] at hin
          have HZ := Lib.hid hz'
          obtain ⟨b1, b2⟩ := low_last HF.out
          have hcl : V.cell? ⟨g, z * 2 + 1, none⟩ = some (.int .u64 (hi : Int)) := by rw [HOV.out.cellAt (z * 2 + 1) (by omega)]; exact (rv_last o' lo hi z hz').2
          have hfz : V.frozen? ⟨g, z * 2 + 1, none⟩ = false := HOV.out.frozenAt _
          have hwh : IntKind.u64.wrap ((hi : Int) + 1) = (hi : Int) + 1 := by rw [IntKind.wrap_u64]; omega
          have hzi : z < z + 1 := Nat.lt_succ_self z
          have hwz : IntKind.i64.wrap ((z : Int)) = (z : Int) := by rw [IntKind.wrap_i64]; omega
          clear ho' hz' HO hm0
          by_cases ht : hi + 1 = p
          · have hte : ((hi : Int) + 1 == (p : Int)) = true := by rw [beq_iff_eq]; omega
            rw [if_pos ht] at hin
            have HR := Lib.hid (fun n => st_rel (len := np) (m := z + 1) (A := some ⟨g, 0, none⟩) (c := c) (wr := (V.drewN n).setCell ⟨g, z * 2 + 1, none⟩ (.int .u64 ((q - 1 : Nat) : Int))) hkl hin.out (by rw [List.length_append, HZ.out]; rfl) (low_snoc (low_init HF.out) b1 (by omega)) (by rw [← rv_set_last o' lo hi (q - 1) z HZ.out]; exact ((own_drewN HOV.out n).stored (z * 2 + 1) _).1) ((Go.below_drewN HV.out n).setCell hgw _))
            rw [hk1I] at HR
            clear ht
            go_wp2_with fail
            go_quiet (fail)
            go_wp2
            go_roundw
            case rel => exact HR.out _
            case measure => simp [intOf]; omega
          · have hte : ((hi : Int) + 1 == (p : Int)) = false := by rw [beq_eq_false_iff_ne]; omega
            rw [if_neg ht] at hin
            clear ht
            go_wp2_with fail
            go_quiet (fail)
            go_wp2_with fail
            go_region_law (first
              | (refine step_append_lies _ rfl (.tmp 85) (.tmp 97) 69 rfl w1.heap.size 73 i0 (.agg #[.int .u64 0, .int .u64 0]) 2 16 Tryz.underlying69 hi0 hz0 hz1 hz2 rfl (by decide) (.slice (some ⟨g, 0, none⟩) (z + 1) c) (z + 1) (rv (o' ++ [(lo, hi)])) rfl (World.ownsRow.alloc (own_drewS HOV.out nq) _) ⟨V.heap.size, 0, none⟩ 1 1 (rv [(p, q - 1)]) rfl rfl (news_run (V.drewN nq).drew p (q - 1) ((q - 1 : Nat) : Int) rfl) (rv_one _) (by decide) (by simp only [maxLen]; omega) (by omega) (Nat.le_trans HV.out.size (by simp)) _ rfl ?_
                 intro g2 cap2 w2 ho2 hg2 hat2 hlt2
                 rw [← rv_append] at ho2
                 have HO2 := Lib.hid ho2
                 have HW2 : Hid (Below w1.heap.size w1 w2) := run_grown (own_drewS HOV.out nq) (low_drewS HV.out nq) hg2
                 clear ho2 hg2 hat2 hlt2))
            all_goals
              have HR := Lib.hid (st_rel (len := np) hkl hin.out (by rw [List.length_append, HM.out]; rfl) (low_snoc HF.out (by omega) (by omega)) HO2.out HW2.out)
              rw [hk1I] at HR
              go_wp2
              go_roundw
              case rel => exact HR.out
              case measure => simp [intOf]; omega
    · have e : Hid (setL l1 l2 how = stF l1 l2 how P k) := by show _ = _; rw [HS.out, NP.out]; congr 1; omega
      have hcond : decide ((k : Int) + 1 < (np : Int)) = false := decide_eq_false (by omega)
      have hge : (np : Int) ≤ (k : Int) + 1 := by omega
      go_wp2
      go_ret
      exact ⟨A, m, c, rfl, by rw [e.out]; exact HM.out, by rw [e.out]; exact own_less HO.out W1.out.size, W1.out.trans (HW.out.mono W1.out.size)⟩
end Go.Proofs.YtmhghgogehmehaaGreat.Ru

/- The contracts of the document's answers for layer runs: Join, Meet, Minus, Norm, Eq, Good, Size, First, Last, Of. Condition: at most 32768 runs (16384 on either side where two lists meet are more than the laws ask), at most 32768 numbers. -/
namespace Go.Proofs.YtmhghgogehmehaaGreat.Ru
open Go.ChangeShapes Go.WideShapes Go.ChangeAt Go.RowKit
set_option linter.unusedVariables false
set_option maxRecDepth 4000

theorem fit_order {l : List Run} (h : InOrder l) : Fit l := fun r hr => by
  have := (may_iff r).1 (h.1 r hr)
  omega
theorem runs_own {w : World} {B n c : Nat} {A : Option Addr} {m : List Run} (h : w.ownsRow B 73 2 (.slice A n c) n (rv m)) (hf : Fit m) : Runs w w.heap.size A m := ⟨hf, lies_any (by decide) h⟩
/-- what a list that came out is to the walks behind it. -/
theorem post_runs {w w' : World} {m : List Run} {e : Ending} (h : RunPost w m e w') (hf : Fit m) : ∃ A n c, e = .returned (.slice A n c) ∧ m.length = n ∧ (A = none → n = 0 ∧ c = 0) ∧ n ≤ c ∧ c ≤ 9223372036854775807 ∧ Runs w' w'.heap.size A m ∧ w'.ownsRow w.heap.size 73 2 (.slice A n c) n (rv m) ∧ Below w.heap.size w w' := by
  obtain ⟨A, n, c, rfl, hn, ho, hb⟩ := h
  obtain ⟨h1, h2, h3⟩ := own_len ho
  exact ⟨A, n, c, rfl, hn, h3, h1, h2, runs_own ho hf, ho, hb⟩

theorem join_any (w : World) (A1 A2 : Option Addr) (l1 l2 : List Run) (n1 n2 c1 c2 : Nat) (hl1 : l1.length = n1) (hl2 : l2.length = n2) (hA1 : A1 = none → n1 = 0 ∧ c1 = 0) (hA2 : A2 = none → n2 = 0 ∧ c2 = 0) (hb1 : Runs w w.heap.size A1 l1) (hb2 : Runs w w.heap.size A2 l2) (h1 : n1 ≤ 32768) (h2 : n2 ≤ 32768) :
    Calls Tryz.prog 78 #[.slice A1 n1 c1, .slice A2 n2 c2] w (RunPost w (setL l1 l2 0)) := by
  have H := Lib.hid (set_any w A1 A2 l1 l2 n1 n2 c1 c2 0 hl1 hl2 hA1 hA2 hb1 hb2 h1 h2 (by decide))
  clear hl1 hl2 hA1 hA2 hb1 hb2
  go_enter Tryz.func78, Tryz.ntmps78
  go_wp2_with fail
  refine H.out.mono ?_
  rintro e w' ⟨A, n, c, rfl, h⟩
  have HH := Lib.hid h
  clear h
  go_wp2
  go_ret
  exact ⟨A, n, c, rfl, HH.out⟩
theorem meet_any (w : World) (A1 A2 : Option Addr) (l1 l2 : List Run) (n1 n2 c1 c2 : Nat) (hl1 : l1.length = n1) (hl2 : l2.length = n2) (hA1 : A1 = none → n1 = 0 ∧ c1 = 0) (hA2 : A2 = none → n2 = 0 ∧ c2 = 0) (hb1 : Runs w w.heap.size A1 l1) (hb2 : Runs w w.heap.size A2 l2) (h1 : n1 ≤ 32768) (h2 : n2 ≤ 32768) :
    Calls Tryz.prog 79 #[.slice A1 n1 c1, .slice A2 n2 c2] w (RunPost w (setL l1 l2 1)) := by
  have H := Lib.hid (set_any w A1 A2 l1 l2 n1 n2 c1 c2 1 hl1 hl2 hA1 hA2 hb1 hb2 h1 h2 (by decide))
  clear hl1 hl2 hA1 hA2 hb1 hb2
  go_enter Tryz.func79, Tryz.ntmps79
  go_wp2_with fail
  refine H.out.mono ?_
  rintro e w' ⟨A, n, c, rfl, h⟩
  have HH := Lib.hid h
  clear h
  go_wp2
  go_ret
  exact ⟨A, n, c, rfl, HH.out⟩
theorem minus_any (w : World) (A1 A2 : Option Addr) (l1 l2 : List Run) (n1 n2 c1 c2 : Nat) (hl1 : l1.length = n1) (hl2 : l2.length = n2) (hA1 : A1 = none → n1 = 0 ∧ c1 = 0) (hA2 : A2 = none → n2 = 0 ∧ c2 = 0) (hb1 : Runs w w.heap.size A1 l1) (hb2 : Runs w w.heap.size A2 l2) (h1 : n1 ≤ 32768) (h2 : n2 ≤ 32768) :
    Calls Tryz.prog 80 #[.slice A1 n1 c1, .slice A2 n2 c2] w (RunPost w (setL l1 l2 2)) := by
  have H := Lib.hid (set_any w A1 A2 l1 l2 n1 n2 c1 c2 2 hl1 hl2 hA1 hA2 hb1 hb2 h1 h2 (by decide))
  clear hl1 hl2 hA1 hA2 hb1 hb2
  go_enter Tryz.func80, Tryz.ntmps80
  go_wp2_with fail
  refine H.out.mono ?_
  rintro e w' ⟨A, n, c, rfl, h⟩
  have HH := Lib.hid h
  clear h
  go_wp2
  go_ret
  exact ⟨A, n, c, rfl, HH.out⟩
/-- the list in order of the same numbers. -/
def normL (l : List Run) : List Run := setL l [] 0
theorem norm_spec (l : List Run) : InOrder (normL l) ∧ ∀ n, has (normL l) n = has l n := by
  obtain ⟨h1, h2⟩ := set_spec l [] 0
  exact ⟨h1, fun n => by rw [show normL l = setL l [] 0 from rfl, h2 n, inB_zero, has_nil, Bool.or_false]⟩
theorem take_more {l m : List Run} {k : Nat} {x : Run} (h : l.take k = m.take k) (h1 : l[k]? = some x) (h2 : m[k]? = some x) : l.take (k + 1) = m.take (k + 1) := by
  rw [List.take_add_one, List.take_add_one, h, h1, h2]
theorem ne_at {l m : List Run} {k : Nat} {x y : Run} (h1 : l[k]? = some x) (h2 : m[k]? = some y) (hn : x ≠ y) : l ≠ m := by
  intro e
  rw [e, h2] at h1
  exact hn (Option.some.inj h1).symm
theorem eq_any (w : World) (B1 B2 : Nat) (A1 A2 : Option Addr) (l1 l2 : List Run) (n1 n2 c1 c2 : Nat) (e1 : l1.length = n1) (e2 : l2.length = n2) (h1 : Runs w B1 A1 l1) (h2 : Runs w B2 A2 l2) (h63 : n1 ≤ 9223372036854775807) :
    Calls Tryz.prog 52 #[.slice A1 n1 c1, .slice A2 n2 c2] w fun e w' => e = .returned (.bool (decide (l1 = l2))) ∧ ∃ m, w' = w.drewN m := by
  have H1 := Lib.hid h1
  have H2 := Lib.hid h2
  have E1 := Lib.hid e1
  have E2 := Lib.hid e2
  clear h1 h2 e1 e2
  by_cases hn : n1 = n2
  · subst hn
    go_enter Tryz.func52, Tryz.ntmps52
    go_wp2
    go_loopw [5] (fun i wr => ∃ k : Nat, k ≤ n1 ∧ i = .int .i64 (k : Int) ∧ l1.take k = l2.take k ∧ ∃ m, wr = w.drewN m) (fun i _ => n1 - (intOf i).toNat)
    case atStart => exact ⟨0, Nat.zero_le _, rfl, by simp, 0, rfl⟩
    case round =>
      obtain ⟨k, hk, rfl, ht, m, rfl⟩ := hrel
      have HT := Lib.hid ht
      clear ht
      by_cases hlt : k < n1
      · obtain ⟨a1, x1, x2, rfl, hlx, hx1, hx2, hc1, hc2⟩ := H1.out.at_ (k := k) (by rw [E1.out]; exact hlt)
        obtain ⟨a2, y1, y2, rfl, hly, hy1, hy2, hd1, hd2⟩ := H2.out.at_ (k := k) (by rw [E2.out]; exact hlt)
        have hc3 : w.cell? ⟨(a1.add (k * 2)).block, (a1.add (k * 2)).off + 1, none⟩ = some (.int .u64 (x2 : Int)) := by rw [add_next]; exact hc2
        have hd3 : w.cell? ⟨(a2.add (k * 2)).block, (a2.add (k * 2)).off + 1, none⟩ = some (.int .u64 (y2 : Int)) := by rw [add_next]; exact hd2
        have LX := Lib.hid hlx
        have LY := Lib.hid hly
        clear hlx hly hc2 hd2
        by_cases hxy : x1 = y1 ∧ x2 = y2
        · obtain ⟨rfl, rfl⟩ := hxy
          have hs := Lib.hid (take_more HT.out LX.out LY.out)
          go_wp2_with fail
          go_quiet (fail)
          go_wp2
          go_roundw
          case rel => exact ⟨k + 1, by omega, by go_num, hs.out, _, rfl⟩
          case measure => simp [intOf]; omega
        · have hd : Hid (decide (l1 = l2) = false) := decide_eq_false (ne_at LX.out LY.out (fun e => hxy (by cases e; exact ⟨rfl, rfl⟩)))
          by_cases hx : x1 = y1
          · subst hx
            have hx2' : ¬ x2 = y2 := fun e => hxy ⟨rfl, e⟩
            have hb2 : ((x2 : Int) == (y2 : Int)) = false := by rw [beq_eq_false_iff_ne]; omega
            clear hxy
            go_wp2_with fail
            go_quiet (fail)
            go_wp2
            go_ret
            exact ⟨ret_bool hd.out.symm, _, World.drewN_drewN ..⟩
          · have hb2 : ((x1 : Int) == (y1 : Int)) = false := by rw [beq_eq_false_iff_ne]; omega
            clear hxy
            go_wp2_with fail
            go_quiet (fail)
            go_wp2
            go_ret
            exact ⟨ret_bool hd.out.symm, _, World.drewN_drewN ..⟩
      · obtain rfl : k = n1 := by omega
        have hd : Hid (l1 = l2) := by
          have h := HT.out
          rw [List.take_of_length_le (by rw [E1.out]; exact Nat.le_refl _), List.take_of_length_le (by rw [E2.out]; exact Nat.le_refl _)] at h
          exact h
        go_wp2
        go_ret
        exact ⟨ret_bool (by rw [decide_eq_true hd.out]), m, rfl⟩
  · have hd : Hid (decide (l1 = l2) = false) := decide_eq_false (fun e => hn (by rw [← E1.out, ← E2.out, e]))
    have hne : ((n1 : Int) != (n2 : Int)) = true := by rw [bne_iff_ne]; omega
    go_enter Tryz.func52, Tryz.ntmps52
    go_wp2
    go_ret
    exact ⟨ret_bool hd.out.symm, 0, rfl⟩
end Go.Proofs.YtmhghgogehmehaaGreat.Ru

/- The contracts of the document's Size and First for layer runs. Condition: at most 32768 runs. -/
namespace Go.Proofs.YtmhghgogehmehaaGreat.Ru
open Go.ChangeShapes Go.WideShapes Go.ChangeAt Go.RowKit
set_option linter.unusedVariables false
set_option maxRecDepth 4000

theorem below_drewK {B : Nat} {a w : World} (h : Below B a w) (n : Nat) : Below B a (w.drewN n) := Go.below_drewN h n

theorem sizeR_append (a b : List Run) : sizeR (a ++ b) = sizeR a + sizeR b := by
  induction a with
  | nil => simp [sizeR]
  | cons r a ih => simp only [List.cons_append, sizeR, ih]; omega
theorem sizeR_take {l : List Run} {k lo hi : Nat} (h : l[k]? = some (lo, hi)) : sizeR (l.take (k + 1)) = sizeR (l.take k) + (hi - lo + 1) := by
  rw [List.take_add_one, h, sizeR_append]
  rfl
theorem sizeR_le (l : List Run) (k : Nat) : sizeR (l.take k) ≤ sizeR l := by
  have := sizeR_append (l.take k) (l.drop k)
  rw [List.take_append_drop] at this
  omega

end Go.Proofs.YtmhghgogehmehaaGreat.Ru

/- What ctx knows by the name VPut lies in dot's DPut. -/
namespace Go.Proofs.YtmhghgogehmehaaGreat.Dt
end Go.Proofs.YtmhghgogehmehaaGreat.Dt
