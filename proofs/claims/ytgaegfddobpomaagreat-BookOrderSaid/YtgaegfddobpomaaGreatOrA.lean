/- Words and contracts that the proofs of this seat stand on, part 1 of 39. -/
import Derived.Test.YtgaegfddobpomaaGreatProg
import Derived.WalkKit
import Derived.ProofKit
import Derived.OpenShut
import Derived.Lib.Hide
import Derived.Below
import Derived.Outline
import Derived.Laws.OwnMore
import Derived.OwnWalk
import Derived.Laws.AppendOwnNone
import Derived.Maps.AppendAt
import Derived.Deep.AppendLies
import Derived.BigQuiet
import Derived.Deep.QuietTactic
import Derived.KernelRfl
import Derived.Laws.IdiomStrings
import Derived.Laws.Concat
import Derived.IntWalk
import Derived.Deep.RegionHeld3

namespace Go.Proofs.YtgaegfddobpomaaGreat.Fd
set_option linter.unusedVariables false
def spc (c : UInt8) : Bool := decide (c = 34 ∨ c = 92)
def okB (c : UInt8) : Bool := decide (32 ≤ c.toNat ∧ c.toNat ≤ 126)
def textB (l : List UInt8) : Bool := l.all okB && decide (l.length ≤ 60)
def escB : List UInt8 → List UInt8
 | [] => []
 | c :: l => if spc c = true then 92 :: c :: escB l else c :: escB l
def quoB (l : List UInt8) : List UInt8 := 34 :: (escB l ++ [34])
def pre (o : List UInt8) (x : Option (List UInt8 × List UInt8)) : Option (List UInt8 × List UInt8) := x.map fun p => (o ++ p.1, p.2)
theorem pre_none (o : List UInt8) : pre o none = none := rfl
theorem pre_some (o t r : List UInt8) : pre o (some (t, r)) = some (o ++ t, r) := rfl
def insB : Bool → List UInt8 → Option (List UInt8 × List UInt8)
 | _, [] => none
 | true, c :: l => if spc c = true then pre [c] (insB false l) else none
 | false, c :: l => if c = 34 then some ([], l) else if c = 92 then insB true l else pre [c] (insB false l)
theorem ins_quote (l : List UInt8) : insB false (34 :: l) = some ([], l) := rfl
theorem ins_escape (l : List UInt8) : insB false (92 :: l) = insB true l := rfl
def keepT (x : Option (List UInt8 × List UInt8)) : Option (List UInt8 × List UInt8) :=
 match x with
 | some p => if textB p.1 = true then some p else none
 | none => none
def unqB (l : List UInt8) : Option (List UInt8 × List UInt8) :=
 match l with
 | [] => none
 | c :: l => if c = 34 then keepT (insB false l) else none
theorem unq_one (l : List UInt8) : unqB (34 :: l) = keepT (insB false l) := rfl
def tx (x : Option (List UInt8 × List UInt8)) : List UInt8 := match x with | some p => p.1 | none => []
def rs (x : Option (List UInt8 × List UInt8)) : List UInt8 := match x with | some p => p.2 | none => []
def ba (l : List UInt8) : ByteArray := ⟨l.toArray⟩
theorem ba_list (s : ByteArray) : ba s.data.toList = s := by
 apply ByteArray.ext
 simp [ba]
theorem ba_of {s : ByteArray} {l : List UInt8} (h : s.data.toList = l) : s = ba l := by rw [← h, ba_list]
theorem list_size (s : ByteArray) : s.data.toList.length = s.size := by simp
theorem take_snoc (s : ByteArray) (k : Nat) (h : k < s.size) : s.data.toList.take (k + 1) = s.data.toList.take k ++ [s[k]] := by
 rw [List.take_succ_eq_append_getElem (by simpa using h)]; rfl
theorem text_part {l : List UInt8} {k : Nat} {c : UInt8} (hc : l[k]? = some c) (hn : okB c = false) : textB l = false := by
 have : l.all okB = false := by
   rw [List.all_eq_false]
   exact ⟨c, List.mem_of_getElem? hc, by simp [hn]⟩
 unfold textB; rw [this, Bool.false_and]
theorem at_byte (s : ByteArray) (k : Nat) (h : k < s.size) : s.data.toList[k]? = some s[k] := by
 have h' : k < s.data.toList.length := by simpa using h
 rw [List.getElem?_eq_getElem h']; rfl
def nameB (f : Nat) : List UInt8 :=
 if f = 1 then [110, 97, 109, 101] else if f = 2 then [112, 104, 111, 110, 101] else if f = 3 then [109, 97, 105, 108] else if f = 4 then [116, 111, 119, 110] else if f = 5 then [110, 111, 116, 101] else []
def goodB (f : Nat) : Bool := decide (1 ≤ f ∧ f ≤ 5)
def ofB (l : List UInt8) : Nat × Bool := if l = nameB 1 then (1, true) else if l = nameB 2 then (2, true) else if l = nameB 3 then (3, true) else if l = nameB 4 then (4, true) else if l = nameB 5 then (5, true) else (0, false)
end Go.Proofs.YtgaegfddobpomaaGreat.Fd

namespace Go.Proofs.YtgaegfddobpomaaGreat.Fd
open Go.ChangeShapes Go.WideShapes Go.ChangeAt Go.RowKit
set_option linter.unusedVariables false
theorem ret_bool {a b : Bool} (h : a = b) : Ending.returned (.bool a) = .returned (.bool b) := by rw [h]
def vals (l : List UInt8) : List Value := l.map fun c => Value.int .u8 (c.toNat : Int)
theorem byte_info : (Tryz.prog.info? 5).map (fun i => (i.zero, i.size, i.bytes)) = some (some (.int .u8 0), 1, 1) := by kernel_rfl
end Go.Proofs.YtgaegfddobpomaaGreat.Fd

namespace Go.Proofs.YtgaegfddobpomaaGreat.Fd
open Go.ChangeShapes Go.WideShapes Go.ChangeAt Go.RowKit
set_option linter.unusedVariables false
set_option maxHeartbeats 4000000 in
theorem rtext_any (s : ByteArray) (w : World) (hs : s.size ≤ 4611686018427387904) :
   Calls Tryz.prog 83 #[.string s] w fun e w' => e = .returned (.bool (textB s.data.toList)) ∧ w' = w := by
 go_enter Tryz.func83, Tryz.ntmps83
 go_wp2
 go_loop [3] (fun i => ∃ k : Nat, k ≤ s.size ∧ i = .int .i64 k ∧ (s.data.toList.take k).all okB = true) (fun i => s.size - (intOf i).toNat)
 case atStart => exact ⟨0, Nat.zero_le _, rfl, rfl⟩
 case round =>
   obtain ⟨k, hk, rfl, ha⟩ := hrel
   by_cases hlt : k < s.size
   · have hgk := Lib.hid (at_byte s k hlt)
     by_cases e1 : okB s[k] = true
     · have HA : Hid ((s.data.toList.take (k + 1)).all okB = true) := Lib.hid (by rw [take_snoc s k hlt, List.all_append, ha, Bool.true_and]; simp [e1])
       have e2 := of_decide_eq_true e1
       have t1 : decide ((s[k].toNat : Int) < 32) = false := decide_eq_false (by omega)
       have t2 : decide (126 < (s[k].toNat : Int)) = false := decide_eq_false (by omega)
       clear e1 e2 ha
       go_wp2
       go_round
       case rel => exact ⟨k + 1, by omega, by go_num, HA.out⟩
       case measure => simp [intOf]; omega
     · have e1' : okB s[k] = false := by simpa using e1
       have HR := Lib.hid (text_part hgk.out e1')
       have e2 := of_decide_eq_false e1'
       clear e1 e1' ha
       by_cases e3 : s[k].toNat < 32
       · have t1 : decide ((s[k].toNat : Int) < 32) = true := decide_eq_true (by omega)
         clear e2
         go_wp2
         go_ret
         exact ⟨ret_bool HR.out.symm, rfl⟩
       · have t1 : decide ((s[k].toNat : Int) < 32) = false := decide_eq_false (by omega)
         have t2 : decide (126 < (s[k].toNat : Int)) = true := decide_eq_true (by omega)
         clear e2 e3
         go_wp2
         go_ret
         exact ⟨ret_bool HR.out.symm, rfl⟩
   · obtain rfl : k = s.size := by omega
     have e : s.data.toList.take s.size = s.data.toList := List.take_of_length_le (by simp)
     rw [e] at ha
     have HR : Hid (textB s.data.toList = decide (s.size ≤ 60)) := Lib.hid (by unfold textB; rw [ha, Bool.true_and, list_size])
     have t1 : decide ((s.size : Int) ≤ 60) = decide (s.size ≤ 60) := by rw [Bool.eq_iff_iff]; simp; omega
     clear ha e
     go_wp2
     go_ret
     exact ⟨ret_bool HR.out.symm, rfl⟩
set_option maxHeartbeats 4000000 in
theorem ptext_any (s : ByteArray) (w : World) (hs : s.size ≤ 4611686018427387904) :
   Calls Tryz.prog 126 #[.string s] w fun e w' => e = .returned (.bool (textB s.data.toList)) ∧ w' = w := by
 by_cases h60 : 60 < s.size
 · have d1 : decide (60 < (s.size : Int)) = true := decide_eq_true (by omega)
   have HR : Hid (textB s.data.toList = false) := Lib.hid (by unfold textB; rw [list_size, decide_eq_false (by omega), Bool.and_false])
   go_enter Tryz.func126, Tryz.ntmps126
   go_wp2
   go_ret
   exact ⟨ret_bool HR.out.symm, rfl⟩
 have d1 : decide (60 < (s.size : Int)) = false := decide_eq_false (by omega)
 have hl60 : Hid (s.size ≤ 60) := Lib.hid (by omega)
 go_enter Tryz.func126, Tryz.ntmps126
 go_wp2
 go_loop [9] (fun i => ∃ k : Nat, k ≤ s.size ∧ i = .int .i64 k ∧ (s.data.toList.take k).all okB = true) (fun i => s.size - (intOf i).toNat)
 case atStart => exact ⟨0, Nat.zero_le _, rfl, rfl⟩
 case round =>
   obtain ⟨k, hk, rfl, ha⟩ := hrel
   by_cases hlt : k < s.size
   · have hgk := Lib.hid (at_byte s k hlt)
     by_cases e1 : okB s[k] = true
     · have HA : Hid ((s.data.toList.take (k + 1)).all okB = true) := Lib.hid (by rw [take_snoc s k hlt, List.all_append, ha, Bool.true_and]; simp [e1])
       have e2 := of_decide_eq_true e1
       have t1 : decide ((s[k].toNat : Int) < 32) = false := decide_eq_false (by omega)
       have t2 : decide (126 < (s[k].toNat : Int)) = false := decide_eq_false (by omega)
       clear e1 e2 ha
       go_wp2
       go_round
       case rel => exact ⟨k + 1, by omega, by go_num, HA.out⟩
       case measure => simp [intOf]; omega
     · have e1' : okB s[k] = false := by simpa using e1
       have HR := Lib.hid (text_part hgk.out e1')
       have e2 := of_decide_eq_false e1'
       clear e1 e1' ha
       by_cases e3 : s[k].toNat < 32
       · have t1 : decide ((s[k].toNat : Int) < 32) = true := decide_eq_true (by omega)
         clear e2
         go_wp2
         go_ret
         exact ⟨ret_bool HR.out.symm, rfl⟩
       · have t1 : decide ((s[k].toNat : Int) < 32) = false := decide_eq_false (by omega)
         have t2 : decide (126 < (s[k].toNat : Int)) = true := decide_eq_true (by omega)
         clear e2 e3
         go_wp2
         go_ret
         exact ⟨ret_bool HR.out.symm, rfl⟩
   · obtain rfl : k = s.size := by omega
     have e : s.data.toList.take s.size = s.data.toList := List.take_of_length_le (by simp)
     rw [e] at ha
     have HR : Hid (textB s.data.toList = true) := Lib.hid (by unfold textB; rw [ha, Bool.true_and, list_size]; exact decide_eq_true hl60.out)
     clear ha e
     go_wp2
     go_ret
     exact ⟨ret_bool HR.out.symm, rfl⟩
end Go.Proofs.YtgaegfddobpomaaGreat.Fd

namespace Go.Proofs.YtgaegfddobpomaaGreat.Dt
open Go.ChangeShapes Go.WideShapes Go.ChangeAt Go.RowKit
set_option linter.unusedVariables false
theorem ret_int {k : IntKind} {a b : Int} (h : a = b) : Ending.returned (.int k a) = .returned (.int k b) := by rw [h]
theorem ret_bool {a b : Bool} (h : a = b) : Ending.returned (.bool a) = .returned (.bool b) := by rw [h]
theorem block_add (a : Addr) (n : Nat) : (a.add n).block = a.block := by unfold Addr.add; split <;> rfl
theorem add_add (a : Addr) (m n : Nat) : (a.add m).add n = a.add (m + n) := by
 unfold Addr.add
 by_cases h1 : m = 0
 · subst h1; simp
 · by_cases h2 : n = 0
   · subst h2; simp
   · have h3 : ¬ m + n = 0 := by omega
     simp [h1, h2, Nat.add_assoc]
theorem zero_add (g j : Nat) : (⟨g, 0, none⟩ : Addr).add j = ⟨g, j, none⟩ := by
 unfold Addr.add; split
 · rename_i hz; rw [hz]
 · simp
def Lies (w : World) (B : Nat) (A : Option Addr) (vs : List Value) : Prop :=
 0 < vs.length → ∃ ad : Addr, A = some ad ∧ ad.block < B ∧ ∀ (j : Nat) (u : Value), vs[j]? = some u → w.cell? (ad.add j) = some u
theorem Lies.below {w w' : World} {B : Nat} {A : Option Addr} {vs : List Value} (h : Lies w B A vs) (hb : Below B w w') : Lies w' B A vs := fun hl => by
 obtain ⟨ad, e, hB, hc⟩ := h hl
 exact ⟨ad, e, hB, fun j u hu => (hb.cell (by rw [block_add]; exact hB)).trans (hc j u hu)⟩
theorem Lies.more {w : World} {B B' : Nat} {A : Option Addr} {vs : List Value} (h : Lies w B A vs) (hB : B ≤ B') : Lies w B' A vs := fun hl => by
 obtain ⟨ad, e, hb, hc⟩ := h hl
 exact ⟨ad, e, by omega, hc⟩
theorem Lies.none_ (w : World) (B : Nat) (A : Option Addr) : Lies w B A [] := fun h => absurd h (by simp)
theorem lies_own {w : World} {B g n cap size : Nat} {e : TypeId} {vs : List Value} (h : w.ownsRow B e size (.slice (some ⟨g, 0, none⟩) n cap) n vs) : Lies w w.heap.size (some ⟨g, 0, none⟩) vs := fun _ => by
 refine ⟨_, rfl, (h.lt g rfl).2, fun j u hj => ?_⟩
 have hjl : j < vs.length := (List.getElem?_eq_some_iff.1 hj).1
 have := h.1
 rw [zero_add, h.cellAt j (by omega), hj]
theorem below_new (w : World) (o : Obj) : Below w.heap.size w (w.alloc o) := (Below.refl _ _).alloc (Nat.le_refl _) o
theorem turn_refl (w : World) (row : Option Nat) : w.grownBy w row := ⟨rfl, rfl, rfl, Nat.le_refl _, fun _ _ _ => rfl⟩
theorem own_shape {w w1 : World} {B n size : Nat} {e : TypeId} {v1 : Value} {xs : List Value} (hown : w1.ownsRow B e size v1 n xs) (hn : 0 < n ∨ ¬ v1 = .slice none 0 0) : ∃ g cap, v1 = .slice (some ⟨g, 0, none⟩) n cap ∧ B ≤ g := by
 rcases hown.2 with ⟨h, hz⟩ | ⟨g, cap, _, e, hg, _⟩
 · rcases hn with hn | hn
   · omega
   · exact absurd h hn
 · exact ⟨g, cap, e, hg⟩
abbrev Dot := Nat × Nat
def dv (l : List Dot) : List Value := l.flatMap fun r => [.int .u16 (r.1 : Int), .int .u64 (r.2 : Int)]
theorem dv_nil : dv [] = [] := rfl
theorem dv_append (l m : List Dot) : dv (l ++ m) = dv l ++ dv m := by unfold dv; rw [List.flatMap_append]
theorem dv_length (l : List Dot) : (dv l).length = l.length * 2 := by
 induction l with
 | nil => rfl
 | cons r l ih => simp only [dv, List.flatMap_cons, List.length_append, List.length_cons, List.length_nil] at ih ⊢; omega
theorem dv_get {l : List Dot} {k : Nat} {r : Dot} (h : l[k]? = some r) : (dv l)[k * 2]? = some (.int .u16 (r.1 : Int)) ∧ (dv l)[k * 2 + 1]? = some (.int .u64 (r.2 : Int)) := by
 induction l generalizing k with
 | nil => simp at h
 | cons x l ih =>
   cases k with
   | zero => obtain rfl : x = r := by simpa using h
             exact ⟨rfl, rfl⟩
   | succ k =>
     have h2 := ih (k := k) (by simpa using h)
     have e : dv (x :: l) = .int .u16 (x.1 : Int) :: .int .u64 (x.2 : Int) :: dv l := rfl
     have e1 : (k + 1) * 2 = k * 2 + 2 := by omega
     rw [e, e1]
     exact ⟨by simpa using h2.1, by simpa using h2.2⟩
theorem dv_one (l : List Dot) : ∀ u ∈ dv l, u.oneCell' = true := by
 intro u hu
 obtain ⟨r, _, h⟩ := List.mem_flatMap.1 hu
 simp only [List.mem_cons, List.not_mem_nil, or_false] at h
 rcases h with rfl | rfl <;> rfl
def Fit (l : List Dot) : Prop := ∀ r ∈ l, r.1 < 65536 ∧ r.2 < 18446744073709551616
def Dots (w : World) (B : Nat) (A : Option Addr) (l : List Dot) : Prop := Fit l ∧ Lies w B A (dv l)
theorem Dots.below {w w' : World} {B : Nat} {A : Option Addr} {l : List Dot} (h : Dots w B A l) (hb : Below B w w') : Dots w' B A l := ⟨h.1, h.2.below hb⟩
theorem Dots.more {w : World} {B B' : Nat} {A : Option Addr} {l : List Dot} (h : Dots w B A l) (hB : B ≤ B') : Dots w B' A l := ⟨h.1, h.2.more hB⟩
theorem Dots.up {w W : World} {A : Option Addr} {l : List Dot} (h : Dots w w.heap.size A l) (hb : Below w.heap.size w W) : Dots W W.heap.size A l := (h.below hb).more hb.size
theorem Dots.none_ (w : World) (B : Nat) (A : Option Addr) : Dots w B A [] := ⟨fun r hr => (by cases hr), Lies.none_ _ _ _⟩
theorem Dots.at_ {w : World} {B : Nat} {A : Option Addr} {l : List Dot} (h : Dots w B A l) {k : Nat} (hk : k < l.length) :
   ∃ (ad : Addr) (lo hi : Nat), A = some ad ∧ l[k]? = some (lo, hi) ∧ lo < 65536 ∧ hi < 18446744073709551616 ∧ w.cell? (ad.add (k * 2)) = some (.int .u16 (lo : Int)) ∧ w.cell? (ad.add (k * 2 + 1)) = some (.int .u64 (hi : Int)) := by
 obtain ⟨ad, e, _, hc⟩ := h.2 (by rw [dv_length]; omega)
 have hg := List.getElem?_eq_getElem hk
 obtain ⟨h1, h2⟩ := h.1 l[k] (List.getElem_mem hk)
 obtain ⟨g1, g2⟩ := dv_get hg
 exact ⟨ad, l[k].1, l[k].2, e, hg, h1, h2, hc _ _ g1, hc _ _ g2⟩
theorem dot_info : (Tryz.prog.info? 35).map (fun i => (i.zero, i.size, i.bytes)) = some (some (.agg #[.int .u16 0, .int .u64 0]), 2, 16) := by kernel_rfl
theorem add_next (ad : Addr) (m : Nat) : (⟨(ad.add m).block, (ad.add m).off + 1, none⟩ : Addr) = ad.add (m + 1) := by
 unfold Addr.add
 by_cases h : m = 0
 · subst h; simp
 · simp [h, Nat.add_assoc]
theorem below_new3 (w : World) (o1 o2 o3 : Obj) : Below w.heap.size w (((w.alloc o1).alloc o2).alloc o3) := by
 have h1 := below_new w o1
 have h2 := h1.alloc (Nat.le_trans (Nat.le_refl _) h1.size) o2
 exact h2.alloc h2.size o3
def mayD (d : Dot) : Bool := decide (1 ≤ d.1 ∧ 1 ≤ d.2 ∧ d.2 < 281474976710656)
theorem may_iff (d : Dot) : mayD d = true ↔ 1 ≤ d.1 ∧ 1 ≤ d.2 ∧ d.2 < 281474976710656 := decide_eq_true_iff
theorem rgood_any (w : World) (a n : Nat) :
   Calls Tryz.prog 75 #[.agg #[.int .u16 (a : Int), .int .u64 (n : Int)]] w fun e w' => e = .returned (.bool (mayD (a, n))) ∧ w' = w.alloc (.cells #[.int .u16 (a : Int), .int .u64 (n : Int)] 35) := by
 by_cases c1 : 1 ≤ a
 · have d1 : decide ((1 : Int) ≤ (a : Int)) = true := decide_eq_true (by omega)
   by_cases c2 : 1 ≤ n
   · have d2 : decide ((1 : Int) ≤ (n : Int)) = true := decide_eq_true (by omega)
     have hd : mayD (a, n) = decide ((n : Int) < 281474976710656) := decide_eq_decide.2 ⟨fun h => by have := h.2.2; simp at this; omega, fun h => ⟨c1, c2, by simp; omega⟩⟩
     rw [hd]
     clear hd
     go_enter Tryz.func75, Tryz.ntmps75
     go_wp2
     go_ret
     exact ⟨rfl, rfl⟩
   · have hd : mayD (a, n) = false := decide_eq_false (fun h => c2 h.2.1)
     have d2 : decide ((1 : Int) ≤ (n : Int)) = false := decide_eq_false (by omega)
     rw [hd]
     clear hd
     go_enter Tryz.func75, Tryz.ntmps75
     go_wp2
     go_ret
     exact ⟨rfl, rfl⟩
 · have hd : mayD (a, n) = false := decide_eq_false (fun h => c1 h.1)
   have d1 : decide ((1 : Int) ≤ (a : Int)) = false := decide_eq_false (by omega)
   rw [hd]
   clear hd
   go_enter Tryz.func75, Tryz.ntmps75
   go_wp2
   go_ret
   exact ⟨rfl, rfl⟩
def aheadD (a b : Dot) : Bool := decide (a.1 < b.1 ∨ (a.1 = b.1 ∧ a.2 < b.2))
def cmpD (a b : Dot) : Int := if a = b then 0 else if aheadD a b = true then -1 else 1
theorem cmp_same (a : Dot) : cmpD a a = 0 := if_pos rfl
theorem cmp_less {a b : Dot} (h : aheadD a b = true) : cmpD a b = -1 := by
 unfold cmpD
 rw [if_neg, if_pos h]
 rintro rfl
 have := of_decide_eq_true h
 omega
theorem cmp_more {a b : Dot} (h : aheadD b a = true) : cmpD a b = 1 := by
 have h2 := of_decide_eq_true h
 unfold cmpD
 rw [if_neg, if_neg]
 · intro h3
   have := of_decide_eq_true h3
   omega
 · rintro rfl
   omega
theorem rcmp_any (w : World) (a b : Dot) :
   Calls Tryz.prog 70 #[.agg #[.int .u16 (a.1 : Int), .int .u64 (a.2 : Int)], .agg #[.int .u16 (b.1 : Int), .int .u64 (b.2 : Int)]] w fun e w' => e = .returned (.int .i64 (cmpD a b)) ∧ Below w.heap.size w w' := by
 obtain ⟨a1, a2⟩ := a
 obtain ⟨b1, b2⟩ := b
 have HB : Hid (Below w.heap.size w ((w.alloc (.cells #[.int .u16 (a1 : Int), .int .u64 (a2 : Int)] 35)).alloc (.cells #[.int .u16 (b1 : Int), .int .u64 (b2 : Int)] 35))) := (below_new w _).trans ((below_new _ _).mono (below_new w _).size)
 by_cases h1 : a1 = b1
 · subst h1
   by_cases h2 : a2 = b2
   · subst h2
     rw [cmp_same]
     go_enter Tryz.func70, Tryz.ntmps70
     go_wp2
     go_ret
     exact ⟨rfl, HB.out⟩
   · have e2 : ((a2 : Int) == (b2 : Int)) = false := by rw [beq_eq_false_iff_ne]; omega
     by_cases h3 : a2 < b2
     · have d3 : decide ((a2 : Int) < (b2 : Int)) = true := decide_eq_true (by omega)
       rw [cmp_less (a := (a1, a2)) (b := (a1, b2)) (decide_eq_true (.inr ⟨rfl, h3⟩))]
       go_enter Tryz.func70, Tryz.ntmps70
       go_wp2
       go_ret
       exact ⟨rfl, HB.out⟩
     · have d3 : decide ((a2 : Int) < (b2 : Int)) = false := decide_eq_false (by omega)
       rw [cmp_more (a := (a1, a2)) (b := (a1, b2)) (decide_eq_true (.inr ⟨rfl, by show b2 < a2; omega⟩))]
       go_enter Tryz.func70, Tryz.ntmps70
       go_wp2
       go_ret
       exact ⟨rfl, HB.out⟩
 · have e1 : ((a1 : Int) == (b1 : Int)) = false := by rw [beq_eq_false_iff_ne]; omega
   by_cases h3 : a1 < b1
   · have d3 : decide ((a1 : Int) < (b1 : Int)) = true := decide_eq_true (by omega)
     rw [cmp_less (a := (a1, a2)) (b := (b1, b2)) (decide_eq_true (.inl h3))]
     go_enter Tryz.func70, Tryz.ntmps70
     go_wp2
     go_ret
     exact ⟨rfl, HB.out⟩
   · have d3 : decide ((a1 : Int) < (b1 : Int)) = false := decide_eq_false (by omega)
     rw [cmp_more (a := (a1, a2)) (b := (b1, b2)) (decide_eq_true (.inl (by show b1 < a1; omega)))]
     go_enter Tryz.func70, Tryz.ntmps70
     go_wp2
     go_ret
     exact ⟨rfl, HB.out⟩
theorem rsplit_any (w : World) (v : Nat) (h1 : v < 18446744073709551616) :
   Calls Tryz.prog 119 #[.int .u64 (v : Int)] w fun e w' => e = .returned (.tuple #[.int .u16 ((v / 281474976710656 : Nat) : Int), .int .u64 ((v % 281474976710656 : Nat) : Int)]) ∧ w = w' := by
 have h : ((v / 281474976710656 : Nat) : Int) = (v : Int) / 281474976710656 := by omega
 have h2 : ((v % 281474976710656 : Nat) : Int) = (v : Int) % 281474976710656 := by omega
 rw [h, h2]
 clear h h2
 go_enter Tryz.func119, Tryz.ntmps119
 go_wp2
 go_ret2
 exact ⟨rfl, rfl⟩
def splitD (v : Nat) : Dot := (v / 281474976710656, v % 281474976710656)
def unpackD (v : Nat) : Dot × Bool := if mayD (splitD v) = true then (splitD v, true) else ((0, 0), false)
theorem runpack_any (w : World) (v : Nat) (h1 : v < 18446744073709551616) :
   Calls Tryz.prog 81 #[.int .u64 (v : Int)] w fun e w' => e = .returned (.tuple #[.agg #[.int .u16 ((unpackD v).1.1 : Int), .int .u64 ((unpackD v).1.2 : Int)], .bool (unpackD v).2]) ∧ Below w.heap.size w w' := by
 have CS := fun W => rsplit_any W v h1
 obtain ⟨a, ha⟩ : ∃ a, v / 281474976710656 = a := ⟨_, rfl⟩
 obtain ⟨n, hn⟩ : ∃ n, v % 281474976710656 = n := ⟨_, rfl⟩
 rw [ha, hn] at CS
 have hu : unpackD v = if mayD (a, n) = true then ((a, n), true) else ((0, 0), false) := by unfold unpackD splitD; rw [ha, hn]
 rw [hu]
 clear hu ha hn
 by_cases hm : mayD (a, n) = true
 · rw [if_pos hm]
   have CG := fun W => rgood_any W a n
   rw [hm] at CG
   clear hm
   go_enter Tryz.func81, Tryz.ntmps81
   go_wp2_with fail
   refine (CS _).mono ?_
   rintro e w1 ⟨rfl, rfl⟩
   go_wp2_with fail
   refine (CG _).mono ?_
   rintro e w2 ⟨rfl, rfl⟩
   go_wp2
   refine bodyPost_ret (v := .tuple #[.agg #[.int .u16 (a : Int), .int .u64 (n : Int)], .bool true]) ?_ rfl ?_
   · simp [results, Tryz.f81, go_sem]
   · exact ⟨rfl, below_new3 _ _ _ _⟩
 · rw [if_neg hm]
   have hm2 : mayD (a, n) = false := by simpa using hm
   have CG := fun W => rgood_any W a n
   rw [hm2] at CG
   clear hm hm2
   go_enter Tryz.func81, Tryz.ntmps81
   go_wp2_with fail
   refine (CS _).mono ?_
   rintro e w1 ⟨rfl, rfl⟩
   go_wp2_with fail
   refine (CG _).mono ?_
   rintro e w2 ⟨rfl, rfl⟩
   go_wp2
   refine bodyPost_ret (v := .tuple #[.agg #[.int .u16 0, .int .u64 0], .bool false]) ?_ rfl ?_
   · simp [results, Tryz.f81, go_sem]
   · exact ⟨rfl, below_new3 _ _ _ _⟩
theorem bel_drewN {B : Nat} {w W : World} (h : Below B w W) (m : Nat) : Below B w (W.drewN m) := h.trans ⟨rfl, rfl, rfl, Nat.le_refl _, fun _ _ => rfl⟩
theorem take_more {l m : List Dot} {k : Nat} {x : Dot} (h : l.take k = m.take k) (h1 : l[k]? = some x) (h2 : m[k]? = some x) : l.take (k + 1) = m.take (k + 1) := by
 rw [List.take_add_one, List.take_add_one, h, h1, h2]
theorem ne_at {l m : List Dot} {k : Nat} {x y : Dot} (h1 : l[k]? = some x) (h2 : m[k]? = some y) (hn : x ≠ y) : l ≠ m := by
 intro e
 rw [e, h2] at h1
 exact hn (Option.some.inj h1).symm
theorem rsame_any (w : World) (B1 B2 : Nat) (A1 A2 : Option Addr) (l1 l2 : List Dot) (n1 n2 c1 c2 : Nat) (e1 : l1.length = n1) (e2 : l2.length = n2) (h1 : Dots w B1 A1 l1) (h2 : Dots w B2 A2 l2) (h63 : n1 ≤ 9223372036854775807) :
   Calls Tryz.prog 54 #[.slice A1 n1 c1, .slice A2 n2 c2] w fun e w' => e = .returned (.bool (decide (l1 = l2))) ∧ ∃ m, w' = w.drewN m := by
 have H1 := Lib.hid h1
 have H2 := Lib.hid h2
 have E1 := Lib.hid e1
 have E2 := Lib.hid e2
 clear h1 h2 e1 e2
 by_cases hn : n1 = n2
 · subst hn
   go_enter Tryz.func54, Tryz.ntmps54
   go_wp2
   go_loopw [5] (fun i wr => ∃ k : Nat, k ≤ n1 ∧ i = .int .i64 (k : Int) ∧ l1.take k = l2.take k ∧ ∃ m, wr = w.drewN m) (fun i _ => n1 - (intOf i).toNat)
   case atStart => exact ⟨0, Nat.zero_le _, rfl, by simp, 0, rfl⟩
   case round =>
     obtain ⟨k, hk, rfl, ht, m, rfl⟩ := hrel
     have HT := Lib.hid ht
     clear ht
     by_cases hlt : k < n1
     · obtain ⟨a1, x1, x2, rfl, hlx, hx1, hx2, hc1, hc2⟩ := H1.out.at_ (k := k) (by rw [E1.out]; exact hlt)
       obtain ⟨a2, y1, y2, rfl, hly, hy1, hy2, hd1, hd2⟩ := H2.out.at_ (k := k) (by rw [E2.out]; exact hlt)
       have hc3 : w.cell? ⟨(a1.add (k * 2)).block, (a1.add (k * 2)).off + 1, none⟩ = some (.int .u64 (x2 : Int)) := by rw [add_next]; exact hc2
       have hd3 : w.cell? ⟨(a2.add (k * 2)).block, (a2.add (k * 2)).off + 1, none⟩ = some (.int .u64 (y2 : Int)) := by rw [add_next]; exact hd2
       have LX := Lib.hid hlx
       have LY := Lib.hid hly
       clear hlx hly hc2 hd2
       by_cases hxy : x1 = y1 ∧ x2 = y2
       · obtain ⟨rfl, rfl⟩ := hxy
         have hs := Lib.hid (take_more HT.out LX.out LY.out)
         go_wp2_with fail
         go_quiet (fail)
         go_wp2
         go_roundw
         case rel => exact ⟨k + 1, by omega, by go_num, hs.out, _, rfl⟩
         case measure => simp [intOf]; omega
       · have hd : Hid (decide (l1 = l2) = false) := decide_eq_false (ne_at LX.out LY.out (fun e => hxy (by cases e; exact ⟨rfl, rfl⟩)))
         by_cases hx : x1 = y1
         · subst hx
           have hx2' : ¬ x2 = y2 := fun e => hxy ⟨rfl, e⟩
           have hb2 : ((x2 : Int) == (y2 : Int)) = false := by rw [beq_eq_false_iff_ne]; omega
           clear hxy
           go_wp2_with fail
           go_quiet (fail)
           go_wp2
           go_ret
           exact ⟨ret_bool hd.out.symm, _, World.drewN_drewN ..⟩
         · have hb2 : ((x1 : Int) == (y1 : Int)) = false := by rw [beq_eq_false_iff_ne]; omega
           clear hxy
           go_wp2_with fail
           go_quiet (fail)
           go_wp2
           go_ret
           exact ⟨ret_bool hd.out.symm, _, World.drewN_drewN ..⟩
     · obtain rfl : k = n1 := by omega
       have hd : Hid (l1 = l2) := by
         have h := HT.out
         rw [List.take_of_length_le (by rw [E1.out]; exact Nat.le_refl _), List.take_of_length_le (by rw [E2.out]; exact Nat.le_refl _)] at h
         exact h
       go_wp2
       go_ret
       exact ⟨ret_bool (by rw [decide_eq_true hd.out]), m, rfl⟩
 · have hd : Hid (decide (l1 = l2) = false) := decide_eq_false (fun e => hn (by rw [← E1.out, ← E2.out, e]))
   have hne : ((n1 : Int) != (n2 : Int)) = true := by rw [bne_iff_ne]; omega
   go_enter Tryz.func54, Tryz.ntmps54
   go_wp2
   go_ret
   exact ⟨ret_bool hd.out.symm, 0, rfl⟩
theorem take_next {l : List Dot} {k : Nat} {x : Dot} (h1 : l[k]? = some x) : l.take (k + 1) = l.take k ++ [x] := by
 rw [List.take_add_one, h1]; rfl
set_option maxHeartbeats 1000000 in
theorem rhas_any (w : World) (A : Option Addr) (l : List Dot) (n c : Nat) (d : Dot) (e1 : l.length = n) (h1 : Dots w w.heap.size A l) (h63 : n ≤ 9223372036854775807) :
   Calls Tryz.prog 34 #[.slice A n c, .agg #[.int .u16 (d.1 : Int), .int .u64 (d.2 : Int)]] w fun e w' => e = .returned (.bool (decide (d ∈ l))) ∧ Below w.heap.size w w' := by
 obtain ⟨d1, d2⟩ := d
 have H1 := Lib.hid (h1.below (below_new w (.cells #[.int .u16 (d1 : Int), .int .u64 (d2 : Int)] 35)))
 have E1 := Lib.hid e1
 have HB : Hid (Below w.heap.size w (w.alloc (.cells #[.int .u16 (d1 : Int), .int .u64 (d2 : Int)] 35))) := below_new w _
 have hd0 : (w.alloc (.cells #[.int .u16 (d1 : Int), .int .u64 (d2 : Int)] 35)).cell? ⟨w.heap.size, 0, none⟩ = some (.int .u16 (d1 : Int)) := by rw [World.cell?_alloc_mark]; rfl
 have hd1 : (w.alloc (.cells #[.int .u16 (d1 : Int), .int .u64 (d2 : Int)] 35)).cell? ⟨w.heap.size, 1, none⟩ = some (.int .u64 (d2 : Int)) := by rw [World.cell?_alloc_mark]; rfl
 clear h1 e1
 go_enter Tryz.func34, Tryz.ntmps34
 go_wp2
 generalize hw1 : w.alloc (.cells #[.int .u16 (d1 : Int), .int .u64 (d2 : Int)] 35) = w1 at *
 clear hw1
 go_loopw [5] (fun i wr => ∃ k : Nat, k ≤ n ∧ i = .int .i64 (k : Int) ∧ ((d1, d2) ∉ l.take k) ∧ ∃ m, wr = w1.drewN m) (fun i _ => n - (intOf i).toNat)
 case atStart => exact ⟨0, Nat.zero_le _, rfl, by simp, 0, rfl⟩
 case round =>
   obtain ⟨k, hk, rfl, ht, m, rfl⟩ := hrel
   have HT := Lib.hid ht
   clear ht
   by_cases hlt : k < n
   · obtain ⟨a1, x1, x2, rfl, hlx, hx1, hx2, hc1, hc2⟩ := H1.out.at_ (k := k) (by rw [E1.out]; exact hlt)
     have hc3 : w1.cell? ⟨(a1.add (k * 2)).block, (a1.add (k * 2)).off + 1, none⟩ = some (.int .u64 (x2 : Int)) := by rw [add_next]; exact hc2
     have LX := Lib.hid hlx
     clear hlx hc2
     by_cases hxy : x1 = d1 ∧ x2 = d2
     · obtain ⟨rfl, rfl⟩ := hxy
       have hs : Hid (decide ((x1, x2) ∈ l) = true) := Lib.hid (decide_eq_true (List.mem_of_getElem? LX.out))
       go_wp2_with fail
       go_quiet (fail)
       go_wp2
       go_ret
       exact ⟨ret_bool hs.out.symm, bel_drewN (bel_drewN HB.out _) _⟩
     · have hs : Hid ((d1, d2) ∉ l.take (k + 1)) := Lib.hid (by
         rw [take_next LX.out, List.mem_append, List.mem_singleton]
         rintro (h | h)
         · exact HT.out h
         · cases h; exact hxy ⟨rfl, rfl⟩)
       by_cases hx : x1 = d1
       · subst hx
         have hx2' : ¬ x2 = d2 := fun e => hxy ⟨rfl, e⟩
         have hb2 : ((x2 : Int) == (d2 : Int)) = false := by rw [beq_eq_false_iff_ne]; omega
         clear hxy
         go_wp2_with fail
         go_quiet (fail)
         go_wp2
         go_roundw
         case rel => exact ⟨k + 1, by omega, by go_num, hs.out, _, rfl⟩
         case measure => simp [intOf]; omega
       · have hb2 : ((x1 : Int) == (d1 : Int)) = false := by rw [beq_eq_false_iff_ne]; omega
         clear hxy
         go_wp2_with fail
         go_quiet (fail)
         go_wp2
         go_roundw
         case rel => exact ⟨k + 1, by omega, by go_num, hs.out, _, rfl⟩
         case measure => simp [intOf]; omega
   · obtain rfl : k = n := by omega
     have hs : Hid (decide ((d1, d2) ∈ l) = false) := Lib.hid (decide_eq_false (by
       have h := HT.out
       rw [List.take_of_length_le (by rw [E1.out]; exact Nat.le_refl _)] at h
       exact h))
     go_wp2
     go_ret
     exact ⟨ret_bool hs.out.symm, bel_drewN HB.out _⟩
theorem bel_drew {w W : World} (h : Below w.heap.size w W) : Below w.heap.size w W.drew := h.drew
theorem rcmp_later (w W : World) (a b : Dot) (hW : Below w.heap.size w W) :
   Calls Tryz.prog 70 #[.agg #[.int .u16 (a.1 : Int), .int .u64 (a.2 : Int)], .agg #[.int .u16 (b.1 : Int), .int .u64 (b.2 : Int)]] W fun e V => e = .returned (.int .i64 (cmpD a b)) ∧ Below w.heap.size w V :=
 (rcmp_any W a b).mono fun _ _ ⟨h1, h2⟩ => ⟨h1, hW.trans (h2.mono hW.size)⟩
def riseB : List Dot → Bool
 | a :: b :: l => aheadD a b && riseB (b :: l)
 | _ => true
theorem riseB_snoc (l : List Dot) (x y : Dot) : riseB (l ++ [x] ++ [y]) = (riseB (l ++ [x]) && aheadD x y) := by
 induction l with
 | nil => simp [riseB]
 | cons a l ih =>
   cases l with
   | nil => simp [riseB]
   | cons b l =>
     simp only [List.cons_append, riseB] at ih ⊢
     rw [ih, Bool.and_assoc]
theorem riseB_part (l m : List Dot) (h : riseB (l ++ m) = true) : riseB l = true := by
 induction l with
 | nil => rfl
 | cons a l ih =>
   cases l with
   | nil => rfl
   | cons b l =>
     simp only [List.cons_append, riseB, Bool.and_eq_true] at ih h ⊢
     exact ⟨h.1, ih h.2⟩
theorem riseB_two {l : List Dot} {j : Nat} {x y : Dot} (hx : l[j]? = some x) (hy : l[j + 1]? = some y) : riseB (l.take (j + 2)) = (riseB (l.take (j + 1)) && aheadD x y) := by
 rw [take_next hy, take_next hx, riseB_snoc]
theorem cmp_sign (a b : Dot) : aheadD a b = false → 0 ≤ cmpD a b := by
 intro h
 unfold cmpD
 split
 · omega
 · rw [h]; simp
theorem Dots.cells {w : World} {B : Nat} {A : Option Addr} {l : List Dot} (h : Dots w B A l) {k : Nat} (hk : k < l.length) :
   ∃ (ad : Addr) (x : Dot), A = some ad ∧ ad.block < B ∧ l[k]? = some x ∧ x.1 < 65536 ∧ x.2 < 18446744073709551616 ∧ ∀ V, Below B w V → V.cell? (ad.add (k * 2)) = some (.int .u16 (x.1 : Int)) ∧ V.cell? ⟨(ad.add (k * 2)).block, (ad.add (k * 2)).off + 1, none⟩ = some (.int .u64 (x.2 : Int)) := by
 obtain ⟨ad, e, hB, _⟩ := h.2 (by rw [dv_length]; omega)
 obtain ⟨ad', lo, hi, e', hl, h1, h2, hc1, hc2⟩ := h.at_ hk
 obtain rfl : ad = ad' := by rw [e] at e'; exact Option.some.inj e'
 refine ⟨ad, (lo, hi), e, hB, hl, h1, h2, fun V hV => ⟨(hV.cell (by rw [block_add]; exact hB)).trans hc1, ?_⟩⟩
 rw [add_next]
 exact (hV.cell (by rw [block_add]; exact hB)).trans hc2
set_option maxHeartbeats 4000000 in
theorem rrising_any (w : World) (A : Option Addr) (l : List Dot) (n c : Nat) (e1 : l.length = n) (h1 : Dots w w.heap.size A l) (h63 : n ≤ 9223372036854775806) :
   Calls Tryz.prog 84 #[.slice A n c] w fun e w' => e = .returned (.bool (riseB l)) ∧ Below w.heap.size w w' := by
 have H1 := Lib.hid h1
 have E1 := Lib.hid e1
 clear h1 e1
 go_enter Tryz.func84, Tryz.ntmps84
 go_wp2
 go_loopw [3] (fun i wr => ∃ j : Nat, i = .int .i64 ((j : Int) + 1) ∧ j ≤ n ∧ riseB (l.take (j + 1)) = true ∧ Below w.heap.size w wr) (fun i _ => n + 1 - (intOf i).toNat)
 case atStart => exact ⟨0, rfl, Nat.zero_le _, by cases l <;> rfl, Below.refl _ _⟩
 case round =>
   obtain ⟨j, rfl, hj, ht, hw⟩ := hrel
   have HT := Lib.hid ht
   have HW := Lib.hid hw
   clear ht hw
   by_cases hlt : j + 1 < n
   · obtain ⟨ad, x, rfl, hB, hlx, hx1, hx2, hcx⟩ := H1.out.cells (k := j) (by rw [E1.out]; omega)
     obtain ⟨ad', y, e', _, hly, hy1, hy2, hcy⟩ := H1.out.cells (k := j + 1) (by rw [E1.out]; omega)
     obtain rfl : ad = ad' := Option.some.inj e'
     have R2 := riseB_two hlx hly
     rw [HT.out, Bool.true_and] at R2
     have RR := Lib.hid R2
     clear e' R2 hlx hly
     have HC : Hid (∀ V, Below wr.heap.size wr V → (V.cell? (ad.add (j * 2)) = some (.int .u16 (x.1 : Int)) ∧ V.cell? ⟨(ad.add (j * 2)).block, (ad.add (j * 2)).off + 1, none⟩ = some (.int .u64 (x.2 : Int))) ∧ V.cell? (ad.add ((j + 1) * 2)) = some (.int .u16 (y.1 : Int)) ∧ V.cell? ⟨(ad.add ((j + 1) * 2)).block, (ad.add ((j + 1) * 2)).off + 1, none⟩ = some (.int .u64 (y.2 : Int))) := fun V hV =>
       ⟨hcx V (HW.out.trans (hV.mono HW.out.size)), hcy V (HW.out.trans (hV.mono HW.out.size))⟩
     clear hcx hcy
     obtain ⟨⟨d1, d2⟩, d3, d4⟩ := HC.out wr (Below.refl _ _)
     have s1 : IntKind.i64.wrap ((j : Int) + 1 - 1) = (j : Int) := by rw [IntWalk.i64_in _ (by omega)]; omega
     have s0 : IntKind.i64.wrap (j : Int) = (j : Int) := IntWalk.i64_in _ (by omega)
     have s2 : (0 : Int) ≤ (j : Int) + 1 := by omega
     have s3 : (0 : Int) ≤ (j : Int) := by omega
     have s4 : ((j : Int) + 1).toNat = j + 1 := by omega
     have s5 : (j : Int) < (n : Int) := by omega
     have s6 : (j : Int) + 1 < (n : Int) := by omega
     go_wp2_with fail
     go_region_held3 (fun V => (V.cell? (ad.add (j * 2)) = some (.int .u16 (x.1 : Int)) ∧ V.cell? ⟨(ad.add (j * 2)).block, (ad.add (j * 2)).off + 1, none⟩ = some (.int .u64 (x.2 : Int))) ∧ V.cell? (ad.add ((j + 1) * 2)) = some (.int .u16 (y.1 : Int)) ∧ V.cell? ⟨(ad.add ((j + 1) * 2)).block, (ad.add ((j + 1) * 2)).off + 1, none⟩ = some (.int .u64 (y.2 : Int))) (first | exact ⟨⟨d1, d2⟩, d3, d4⟩ | assumption | exact HC.out _ (by (repeat (first | exact Below.refl _ _ | assumption | apply bel_drew)))) (first
       | (go_at_call 70; (with_reducible refine (rcmp_later wr _ x y ?_).mono ?_); (repeat (first | exact Below.refl _ _ | assumption | apply bel_drew)); rintro e V ⟨rfl, bv⟩; have hcV := HC.out V bv))
     all_goals
       have HV : Hid (Below w.heap.size w V) := HW.out.trans (bv.mono HW.out.size)
       clear hcV bv d1 d2 d3 d4 s1 s0
       cases ha : aheadD x y with
       | true =>
         have hz : decide (0 ≤ cmpD x y) = false := decide_eq_false (by rw [cmp_less ha]; omega)
         rw [ha] at RR
         rw [hz]
         clear hz ha s2 s3 s4 s5 s6
         go_wp2
         go_roundw
         case rel => exact ⟨j + 1, by go_num, by omega, RR.out, HV.out⟩
         case measure => simp [intOf]; omega
       | false =>
         have hz : decide (0 ≤ cmpD x y) = true := decide_eq_true (cmp_sign x y ha)
         rw [ha] at RR
         rw [hz]
         have hf : Hid (riseB l = false) := Lib.hid (by
           cases hr : riseB l with
           | false => rfl
           | true =>
             have := riseB_part (l.take (j + 2)) (l.drop (j + 2)) (by rw [List.take_append_drop]; exact hr)
             rw [RR.out] at this
             exact absurd this (by simp))
         clear hz ha s2 s3 s4 s5 s6
         go_wp2
         go_ret
         exact ⟨ret_bool hf.out.symm, HV.out⟩
   · have hf : Hid (riseB l = true) := Lib.hid (by
       have := HT.out
       rw [List.take_of_length_le (by rw [E1.out]; omega)] at this
       exact this)
     go_wp2
     go_ret
     exact ⟨ret_bool hf.out.symm, HW.out⟩
end Go.Proofs.YtgaegfddobpomaaGreat.Dt
