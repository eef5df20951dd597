/- The contract of seal's Open: what any bytes are opened to, or the error; a new list; nothing that was there has changed. Conditions: at most 2^47 - 4091 bytes; crc's table lies in its variable. -/
import Derived.Test.YtjipeiigcoipjaaDoorRspoil
import Derived.Deep.RegionHeld3
namespace Go.Proofs.YtjipeiigcoipjaaDoor.Se
open Go.ChangeShapes Go.WideShapes Go.ChangeAt Go.RowKit
set_option linter.unusedVariables false

/-- what bytes are opened to: the kind, the body, the error. -/
def kindOf (l : List Nat) : Nat := if l.length < 5 then 0 else if Crc.fits l = true then l.headD 0 else 0
def bodyOf (l : List Nat) : List Nat := if l.length < 5 then [] else if Crc.fits l = true then (l.take (l.length - 4)).drop 1 else []
def errOf (l : List Nat) : Nat := if l.length < 5 then 2 else if Crc.fits l = true then 0 else 5

def OpenPost (w : World) (l : List Nat) (e : Ending) (w' : World) : Prop :=
  ∃ (A : Option Addr) (n c : Nat), e = .returned (.tuple #[.int .u8 ((kindOf l : Nat) : Int), .slice A n c, .int .i64 ((errOf l : Nat) : Int)]) ∧ (bodyOf l).length = n ∧ Bytes w' w'.heap.size A (bodyOf l) ∧ (A = none → n = 0 ∧ c = 0) ∧
    w'.ownsRow w.heap.size 5 1 (.slice A n c) n (vals (bodyOf l)) ∧ Below w.heap.size w w'

theorem fits_drop {l : List Nat} {k : Nat} (h : l.length = k + 4) : Crc.fits l = decide (l.drop k = Crc.unle 4 (Crc.more 0 (l.take k))) := by
  have e : l.length - 4 = k := by omega
  unfold Crc.fits Crc.shut
  rw [e]
  apply decide_eq_decide.2
  constructor
  · intro h1
    have h2 : l.take k ++ l.drop k = l.take k ++ Crc.unle 4 (Crc.more 0 (l.take k)) := by rw [List.take_append_drop]; exact h1
    exact List.append_cancel_left h2
  · intro h1
    rw [← h1, List.take_append_drop]

theorem bel_drew {w W : World} (h : Below w.heap.size w W) : Below w.heap.size w W.drew := h.drew
theorem bel_drewN {w W : World} (h : Below w.heap.size w W) (n : Nat) : Below w.heap.size w (W.drewN n) := Go.below_drewN h n
theorem bel_alloc {w W : World} (h : Below w.heap.size w W) (o : Obj) : Below w.heap.size w (W.alloc o) := h.alloc h.size o

theorem sum_later (w W : World) (g s m d : Nat) (A : Option Addr) (l : List Nat) (hm : l.length = m) (hs : Crc.more 0 l = s) (ht : Tab w) (h : Bytes w w.heap.size A l) (hl : m ≤ 9223372036854775807)
    (bel : Below w.heap.size w W) (hc : W.cell? ⟨g, 0, none⟩ = some (.slice A m d)) :
    Calls Tryd.prog 17 #[.slice (some ⟨g, 0, none⟩) 1 1] W fun e w' => ∃ g2 cap2, e = .returned (.slice (some ⟨g2, 0, none⟩) 4 cap2) ∧ Bytes w' w'.heap.size (some ⟨g2, 0, none⟩) (Crc.unle 4 s) ∧ Below w.heap.size w w' := by
  subst hm
  have hp : Parts W w.heap.size (some ⟨g, 0, none⟩) [⟨A, d, l⟩] := ⟨fun p hp => by obtain rfl := List.mem_singleton.1 hp; exact ⟨h.below bel, hl⟩, fun _ => ⟨_, rfl, fun j p hj => by
    match j, hj with
    | 0, hj => obtain rfl : _ = p := by simpa using hj
               exact hc
    | j + 1, hj => simp at hj⟩⟩
  refine (sumOf_any [⟨A, d, l⟩] _ _ 1 1 s W rfl hs (by simp) (ht.below bel) hp).mono ?_
  rintro e w' ⟨g2, cap2, n, rfl, hn, hg, ho, hb⟩
  have hn4 : n = 4 := by rw [← hn, Crc.unle_length]
  subst hn4
  exact ⟨g2, cap2, rfl, bytes_own ho (Crc.unle_small _ _), bel.trans (hb.mono bel.size)⟩
theorem same_later (w W : World) (A1 A2 : Option Addr) (l1 l2 : List Nat) (n1 n2 c1 c2 : Nat) (b : Bool) (e1 : l1.length = n1) (e2 : l2.length = n2) (h1 : Bytes w w.heap.size A1 l1) (h2 : Bytes W W.heap.size A2 l2) (h63 : n1 ≤ 9223372036854775807) (bel : Below w.heap.size w W) (hbe : decide (l1 = l2) = b) :
    Calls Tryd.prog 21 #[.slice A1 n1 c1, .slice A2 n2 c2] W fun e w' => e = .returned (.bool b) ∧ Below w.heap.size w w' := by
  refine (same_any W w.heap.size W.heap.size A1 A2 l1 l2 n1 n2 c1 c2 e1 e2 (h1.below bel) h2 h63).mono ?_
  rintro e w' ⟨rfl, m, rfl⟩
  exact ⟨ret_bool hbe, bel_drewN bel m⟩

theorem clone_later (w W : World) (A : Option Addr) (l : List Nat) (n c : Nat) (hn : l.length = n) (hA : A = none → n = 0 ∧ c = 0) (h : Bytes w w.heap.size A l) (hl : n ≤ 140737488355328) (bel : Below w.heap.size w W) :
    Calls Tryd.prog 19 #[.slice A n c] W fun e w' => ∃ A' c', e = .returned (.slice A' n c') ∧ Bytes w' w'.heap.size A' l ∧ (A' = none → n = 0 ∧ c' = 0) ∧ w'.ownsRow w.heap.size 5 1 (.slice A' n c') n (vals l) ∧ Below w.heap.size w w' := by
  refine (clone_any W A l n c hn hA (h.up bel) hl).mono ?_
  rintro e w' ⟨A', n', c', rfl, hn', hb, _, _, hz, hbel, ho⟩
  obtain rfl : n = n' := hn.symm.trans hn'
  exact ⟨A', c', rfl, hb, fun e => ⟨by rw [← hn]; exact hb.none_len e, hz e⟩, own_less ho bel.size, bel.trans (hbel.mono bel.size)⟩
theorem told_bad {l : List Nat} (h5 : 5 ≤ l.length) (hf : Crc.fits l = false) : kindOf l = 0 ∧ bodyOf l = [] ∧ errOf l = 5 := by
  have h : ¬ l.length < 5 := by omega
  unfold kindOf bodyOf errOf
  simp [h, hf]
theorem told_ok {l : List Nat} {k x : Nat} (h : l.length = k + 4) (h1 : 1 ≤ k) (hf : Crc.fits l = true) (hx : l[0]? = some x) : kindOf l = x ∧ bodyOf l = (l.take k).drop 1 ∧ errOf l = 0 := by
  have h5 : ¬ l.length < 5 := by omega
  have e : l.length - 4 = k := by omega
  unfold kindOf bodyOf errOf
  rw [if_neg h5, if_neg h5, if_neg h5, if_pos hf, if_pos hf, if_pos hf, e]
  refine ⟨?_, rfl, rfl⟩
  cases l with
  | nil => simp at hx
  | cons y ys => simpa using hx
theorem open_bad {w w' : World} {l : List Nat} (h5 : 5 ≤ l.length) (hf : Crc.fits l = false) (hb : Below w.heap.size w w') : OpenPost w l (.returned (.tuple #[.int .u8 0, .slice none 0 0, .int .i64 5])) w' := by
  obtain ⟨e1, e2, e3⟩ := told_bad h5 hf
  refine ⟨none, 0, 0, by rw [e1, e3]; rfl, by rw [e2]; rfl, by rw [e2]; exact Bytes.none_ _ _ _, fun _ => ⟨rfl, rfl⟩, by rw [e2]; exact World.ownsRow_nil _ _ _ _, hb⟩

theorem open_good {w w' : World} {l m : List Nat} {x n c : Nat} {A : Option Addr} (h : kindOf l = x ∧ bodyOf l = m ∧ errOf l = 0) (hl : m.length = n) (hb : Bytes w' w'.heap.size A m) (hA : A = none → n = 0 ∧ c = 0) (ho : w'.ownsRow w.heap.size 5 1 (.slice A n c) n (vals m)) (bel : Below w.heap.size w w') :
    OpenPost w l (.returned (.tuple #[.int .u8 (x : Int), .slice A n c, .int .i64 0])) w' := by
  obtain ⟨rfl, rfl, e3⟩ := h
  exact ⟨A, n, c, by rw [e3]; rfl, hl, hb, hA, ho, bel⟩

set_option maxHeartbeats 4000000 in
theorem open_cut (w : World) (ad : Addr) (l : List Nat) (n c k : Nat) (hln : Hid (l.length = n)) (hk : n = k + 4) (h1 : 1 ≤ k) (ht : Hid (Tab w)) (hb : Hid (Bytes w w.heap.size (some ad) l)) (hlc : n ≤ c) (hc : c ≤ 9223372036854775807) (hl : n ≤ 140737488351237) :
    Calls Tryd.prog 13 #[.slice (some ad) n c] w (OpenPost w l) := by
  obtain ⟨s, hs⟩ : ∃ s, Crc.more 0 (l.take k) = s := ⟨_, rfl⟩
  have l1 : Hid ((l.take k).length = k) := by show _ = _; rw [List.length_take, hln.out]; omega
  have l2 : Hid ((l.drop k).length = n - k) := by show _ = _; rw [List.length_drop, hln.out]
  have r1 := Lib.hid hs
  have hf : Hid (decide (l.drop k = Crc.unle 4 s) = Crc.fits l) := by show _ = _; rw [fits_drop (by rw [hln.out]; exact hk), hs]
  clear hs
  have b1 := Lib.hid (hb.out.take k)
  have b2 := Lib.hid (hb.out.drop k)
  have hkI : (n : Int) - 4 = (k : Int) := by omega
  have hn5 : ¬ (n : Int) < 5 := by omega
  have hck : ¬ c = k := by omega
  have i1 : (0 : Int) ≤ (k : Int) := by omega
  have i2 : (k : Int) ≤ (n : Int) := by omega
  have i3 : (k : Int) ≤ (c : Int) := by omega
  have i4 : k ≤ n := by omega
  have i5 : k ≤ c := by omega
  have hn5d : decide ((n : Int) < 5) = false := decide_eq_false hn5
  have n5 : 5 ≤ n := by omega
  have HK := Lib.hid hk
  clear hk
  generalize hfe : Crc.fits l = f at *
  go_enter Tryd.func13, Tryd.ntmps13
  go_wp2_with fail
  clear hkI hn5 hn5d
  go_region_held3 (fun _ => True) (trivial) (first
    | (go_at_call 21; (with_reducible refine (same_later w _ (some (ad.add k)) _ (l.drop k) (Crc.unle 4 s) (n - k) 4 (c - k) _ f l2.out (Crc.unle_length _ _) b2.out ?_ (by omega) ?_ hf.out).mono ?_); (focus assumption); (repeat (first | exact Below.refl _ _ | assumption | apply bel_drew | apply bel_drewN | apply bel_alloc)); rintro e w' ⟨rfl, bw2⟩)
    | (go_at_call 17; (with_reducible refine (sum_later w _ _ s k c (some ad) (l.take k) l1.out r1.out ht.out b1.out (by omega) ?_ ?_).mono ?_); (repeat (first | exact Below.refl _ _ | assumption | apply bel_drew | apply bel_drewN | apply bel_alloc)); (focus (simp [go_sem]; done)); rintro e w' ⟨g2, cap2, rfl, bs, bw⟩))
  have l5 : Hid (5 ≤ l.length) := by show _ ≤ _; rw [hln.out]; exact n5
  have HB2 := Lib.hid bw2
  cases f with
  | false =>
    go_wp2
    go_ret3
    exact open_bad l5.out hfe HB2.out
  | true =>
    obtain ⟨ad', x, e, hx, hlx, hcell⟩ := hb.out.at_ (k := 0) (by rw [hln.out]; omega)
    obtain rfl := Option.some.inj e
    have hc0 : w'.cell? ad = some (.int .u8 (x : Int)) := by
      rw [show ad.add 0 = ad by simp [Addr.add]] at hcell
      exact (HB2.out.cell (World.block_lt_of_cell? w _ hcell)).trans hcell
    have b3 : Hid (Bytes w w.heap.size (some ⟨ad.block, ad.off + 1, none⟩) ((l.take k).drop 1)) := b1.out.drop 1
    have l3 : Hid (((l.take k).drop 1).length = k - 1) := by show _ = _; rw [List.length_drop, l1.out]
    have HT := Lib.hid (told_ok (l := l) (by rw [hln.out]; exact HK.out) h1 hfe hlx)
    have hc1 : ¬ c = 1 := by omega
    have j0 : 0 < n := by omega
    have j1 : (1 : Int) ≤ (k : Int) := by omega
    have HC := Lib.hid hcell
    have HBL : Hid (∀ V, Below w.heap.size w V → V.cell? ad = some (.int .u8 (x : Int))) := fun V hV => by
      have h0 := HC.out
      rw [show ad.add 0 = ad by simp [Addr.add]] at h0
      exact (hV.cell (World.block_lt_of_cell? w _ h0)).trans h0
    clear hlx hcell bs bw
    go_wp2_with fail
    go_region_held3 (fun V => V.cell? ad = some (.int .u8 (x : Int))) (first | go_keep | assumption) (first
      | (go_at_call 19; (with_reducible refine (clone_later w _ (some ⟨ad.block, ad.off + 1, none⟩) ((l.take k).drop 1) (k - 1) (c - 1) l3.out (fun e => by cases e) b3.out (by omega) ?_).mono ?_); (repeat (first | exact Below.refl _ _ | assumption | apply bel_drew | apply bel_drewN | apply bel_alloc)); rintro e V ⟨A', c', rfl, hb', hA', ho', bw3⟩; have hcV : V.cell? ad = some (.int .u8 (x : Int)) := HBL.out V bw3))
    all_goals
      go_wp2
      go_ret3
      exact open_good HT.out l3.out hb' hA' ho' bw3

theorem open_short (w : World) (A : Option Addr) (l : List Nat) (n c : Nat) (hln : l.length = n) (h5 : n < 5) : Calls Tryd.prog 13 #[.slice A n c] w (OpenPost w l) := by
  have h : Hid (OpenPost w l (.returned (.tuple #[.int .u8 0, .slice none 0 0, .int .i64 2])) w) := by
    have h5' : l.length < 5 := by omega
    have e1 : kindOf l = 0 := if_pos h5'
    have e2 : bodyOf l = [] := if_pos h5'
    have e3 : errOf l = 2 := if_pos h5'
    exact ⟨none, 0, 0, by rw [e1, e3]; rfl, by rw [e2]; rfl, by rw [e2]; exact Bytes.none_ _ _ _, fun _ => ⟨rfl, rfl⟩, by rw [e2]; exact World.ownsRow_nil _ _ _ _, Below.refl _ _⟩
  have hd : decide ((n : Int) < 5) = true := decide_eq_true (by omega)
  go_enter Tryd.func13, Tryd.ntmps13
  go_wp2
  go_ret3
  exact h.out

/-- WHAT ANY BYTES ARE OPENED TO. -/
theorem open_any (w : World) (A : Option Addr) (l : List Nat) (n c : Nat) (hln : l.length = n) (ht : Tab w) (hb : Bytes w w.heap.size A l) (hlc : n ≤ c) (hc : c ≤ 9223372036854775807) (hl : n ≤ 140737488351237) :
    Calls Tryd.prog 13 #[.slice A n c] w (OpenPost w l) := by
  by_cases h5 : n < 5
  · exact open_short w A l n c hln h5
  · obtain ⟨ad, _, rfl, _⟩ := hb.at_ (k := 0) (by omega)
    exact open_cut w ad l n c (n - 4) hln (by omega) (by omega) ht hb hlc hc hl
end Go.Proofs.YtjipeiigcoipjaaDoor.Se
