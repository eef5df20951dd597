/- The contract of the document's Open: what any bytes are opened to, or the error; a new list; nothing that was there has changed. Condition: at most 2^47 - 4091 bytes. -/
import Derived.Test.YtjipeiigcoipjaaDoorOpen
namespace Go.Proofs.YtjipeiigcoipjaaDoor.Se
open Go.ChangeShapes Go.WideShapes Go.ChangeAt Go.RowKit
set_option linter.unusedVariables false

theorem ropen_short (w : World) (A : Option Addr) (l : List Nat) (n c : Nat) (hln : l.length = n) (h5 : n < 5) : Calls Tryd.prog 14 #[.slice A n c] w (OpenPost w l) := by
  have h : Hid (OpenPost w l (.returned (.tuple #[.int .u8 0, .slice none 0 0, .int .i64 2])) w) := by
    have h5' : l.length < 5 := by omega
    have e1 : kindOf l = 0 := if_pos h5'
    have e2 : bodyOf l = [] := if_pos h5'
    have e3 : errOf l = 2 := if_pos h5'
    exact ⟨none, 0, 0, by rw [e1, e3]; rfl, by rw [e2]; rfl, by rw [e2]; exact Bytes.none_ _ _ _, fun _ => ⟨rfl, rfl⟩, by rw [e2]; exact World.ownsRow_nil _ _ _ _, Below.refl _ _⟩
  have hd : decide ((n : Int) < 5) = true := decide_eq_true (by omega)
  go_enter Tryd.func14, Tryd.ntmps14
  go_wp2
  go_ret3
  exact h.out

theorem rshut_later (w W : World) (A : Option Addr) (l : List Nat) (n c x : Nat) (m : List Nat) (hn : l.length = n) (hA : A = none → n = 0 ∧ c = 0) (hb : Bytes w w.heap.size A l) (hx : x < 256) (hl : n ≤ 140737488351232) (hm : Crc.shut (x :: l) = m) (bel : Below w.heap.size w W) :
    Calls Tryd.prog 10 #[.int .u8 (x : Int), .slice A n c] W fun e w' => ∃ g cap, e = .returned (.slice (some ⟨g, 0, none⟩) (n + 5) cap) ∧ (convert 22 9 (.slice (some ⟨g, 0, none⟩) (n + 5) cap)).run Tryd.prog w' = .ok (.string (Crc.str m)) w' ∧ Below w.heap.size w w' := by
  subst hm
  have hs := hb.1
  refine (rshut_any W A l n c x hn hA (hb.up bel) hx hl).mono ?_
  rintro e w' ⟨g, cap, k, rfl, hk, hg, ho, hbel⟩
  have hk5 : k = n + 5 := by rw [← hk, Crc.shut_length, List.length_cons, hn]
  subst hk5
  exact ⟨g, cap, rfl, conv (bytes_own ho (Crc.shut_small (small_one hx hs))) _ _ hk, bel.trans (hbel.mono bel.size)⟩

theorem own_kept {w V : World} {B n : Nat} {v : Value} {xs : List Value} (h : w.ownsRow B 5 1 v n xs) (hb : Below w.heap.size w V) : V.ownsRow B 5 1 v n xs := by
  refine ⟨h.1, ?_⟩
  rcases h.2 with hz | ⟨g, cap, cur, e, hg, hh, hr⟩
  · exact .inl hz
  · have hlt : g < w.heap.size := by
      rcases Nat.lt_or_ge g w.heap.size with h1 | h1
      · exact h1
      · rw [Array.getElem?_eq_none h1] at hh; cases hh
    exact .inr ⟨g, cap, cur, e, hg, (hb.block g hlt).trans hh, hr⟩

set_option maxHeartbeats 4000000 in
theorem ropen_cut (w : World) (ad : Addr) (l : List Nat) (n c k : Nat) (hln : Hid (l.length = n)) (hk : n = k + 4) (h1 : 1 ≤ k) (hb : Hid (Bytes w w.heap.size (some ad) l)) (hlc : n ≤ c) (hc : c ≤ 9223372036854775807) (hl : n ≤ 140737488351237) :
    Calls Tryd.prog 14 #[.slice (some ad) n c] w (OpenPost w l) := by
  obtain ⟨ad', x, e, hx, hlx, hcell⟩ := hb.out.at_ (k := 0) (by rw [hln.out]; omega)
  obtain rfl := Option.some.inj e
  have l1 : Hid ((l.take k).length = k) := by show _ = _; rw [List.length_take, hln.out]; omega
  have b3 : Hid (Bytes w w.heap.size (some ⟨ad.block, ad.off + 1, none⟩) ((l.take k).drop 1)) := (hb.out.take k).drop 1
  have l3 : Hid (((l.take k).drop 1).length = k - 1) := by show _ = _; rw [List.length_drop, l1.out]
  have hf : Hid (decide (Crc.shut (x :: (l.take k).drop 1) = l) = Crc.fits l) := by
    have e2 : x :: (l.take k).drop 1 = l.take k := by
      cases l with
      | nil => simp at hlx
      | cons y ys =>
        obtain rfl : y = x := by simpa using hlx
        obtain ⟨j, rfl⟩ : ∃ j, k = j + 1 := ⟨k - 1, by omega⟩
        simp
    show _ = _
    rw [e2]
    have e3 : l.length - 4 = k := by rw [hln.out]; omega
    unfold Crc.fits
    rw [e3]
    exact decide_eq_decide.2 eq_comm
  obtain ⟨m, hm⟩ : ∃ m, Crc.shut (x :: (l.take k).drop 1) = m := ⟨_, rfl⟩
  have HM := Lib.hid hm
  have sm : Hid (Crc.Small m) := by
    show Crc.Small m
    rw [← hm]; exact Crc.shut_small (small_one hx b3.out.1)
  have HEQ : Hid (((Crc.str m).toList == (Crc.str l).toList) = Crc.fits l) := by
    show _ = _
    rw [Crc.str_eql sm.out hb.out.1, ← hf.out, hm]
  clear hm
  have HT : Crc.fits l = true → kindOf l = x ∧ bodyOf l = (l.take k).drop 1 ∧ errOf l = 0 := fun hfe => told_ok (by rw [hln.out]; exact hk) h1 hfe hlx
  have HS : Hid (∀ V, Below w.heap.size w V → V.cell? ad = some (.int .u8 (x : Int)) ∧ (convert 22 9 (.slice (some ad) n c)).run Tryd.prog V = .ok (.string (Crc.str l)) V) := fun V hV => by
    rw [show ad.add 0 = ad by simp [Addr.add]] at hcell
    exact ⟨(hV.cell (World.block_lt_of_cell? w _ hcell)).trans hcell, conv (hb.out.below hV) n c hln.out⟩
  have hkI : (n : Int) - 4 = (k : Int) := by omega
  have hc1 : ¬ c = 1 := by omega
  have j0 : 0 < n := by omega
  have j1 : (1 : Int) ≤ (k : Int) := by omega
  have i1 : (0 : Int) ≤ (k : Int) := by omega
  have i2 : (k : Int) ≤ (n : Int) := by omega
  have i3 : (k : Int) ≤ (c : Int) := by omega
  have i4 : k ≤ n := by omega
  have i5 : k ≤ c := by omega
  have n5 : 5 ≤ n := by omega
  have l5 : Hid (5 ≤ l.length) := by show _ ≤ _; rw [hln.out]; exact n5
  have hn5d : decide ((n : Int) < 5) = false := decide_eq_false (by omega)
  have HK := Lib.hid hk
  have hk1 : k - 1 + 5 = n := by omega
  have HK1 := Lib.hid hk1
  have hk47 : k - 1 ≤ 140737488351232 := by omega
  have B0 : Hid (Below w.heap.size w (w.alloc (.cells #[] 5))) := below_new w _
  have O0 := Lib.hid (out_new w)
  have b3' : Hid (Bytes (w.alloc (.cells #[] 5)) (w.alloc (.cells #[] 5)).heap.size (some ⟨ad.block, ad.off + 1, none⟩) ((l.take k).drop 1)) := b3.out.up B0.out
  clear hk hk1 hcell hlx
  generalize hfe : Crc.fits l = f at *
  go_enter Tryd.func14, Tryd.ntmps14
  go_wp2_with (
    (at_builtin
     refine wpList_out rfl (.tmp 9) (.tmp 14) rfl rfl _ w.heap.size w.heap.size (some ⟨ad.block, ad.off + 1, none⟩) ((l.take k).drop 1) (k - 1) (c - 1) rfl rfl O0.out (fun e => by cases e) b3'.out l3.out (by omega) (by simp) ?_
     intro g1 cap1 w1 ho1 hg1 hB1
     have HO1 := Lib.hid ho1
     have HW1 : Hid (Below w.heap.size w w1) := B0.out.grown hg1 (by simp) (fun k e => by cases e; exact Nat.le_refl _)
     clear ho1 hg1))
  have b4 : Hid (Bytes w1 w1.heap.size (some ⟨g1, 0, none⟩) ((l.take k).drop 1)) := bytes_own HO1.out b3.out.1
  have ⟨hc0, hv0⟩ := HS.out w1 HW1.out
  have HUP : Hid (∀ V, Below w1.heap.size w1 V → Below w.heap.size w V) := fun V hV => HW1.out.trans (hV.mono HW1.out.size)
  have ⟨hc0d, hv0d⟩ := HS.out w1.drew HW1.out.drew
  go_region_with (first
    | (go_at_call 10; (with_reducible refine (rshut_later w1 _ (some ⟨g1, 0, none⟩) ((l.take k).drop 1) (k - 1) cap1 x m l3.out (fun e => by cases e) b4.out hx hk47 HM.out ?_).mono ?_); (repeat (first | exact Below.refl _ _ | assumption | apply bel_drew | apply bel_drewN | apply bel_alloc)); rintro e V ⟨g2, cap2, rfl, hcv2, bw3⟩; have ⟨hcV, hvV⟩ := HS.out V (HUP.out V bw3)))
  all_goals
    rw [HEQ.out]
    have HV : Hid (Below w.heap.size w V) := HUP.out V bw3
    have HBO : Hid (Bytes V V.heap.size (some ⟨g1, 0, none⟩) ((l.take k).drop 1)) := b4.out.up bw3
    have HOV : Hid (V.ownsRow w.heap.size 5 1 (.slice (some ⟨g1, 0, none⟩) (k - 1) cap1) (k - 1) (vals ((l.take k).drop 1))) := own_kept HO1.out bw3
    cases f with
    | false =>
      go_wp2
      go_ret3
      exact open_bad l5.out hfe HV.out
    | true =>
      have HT' := Lib.hid (HT rfl)
      clear HT
      go_wp2
      go_ret3
      exact open_good HT'.out l3.out HBO.out (fun e => by cases e) HOV.out HV.out

/-- WHAT ANY BYTES ARE OPENED TO, by the document. -/
theorem ropen_any (w : World) (A : Option Addr) (l : List Nat) (n c : Nat) (hln : l.length = n) (hb : Bytes w w.heap.size A l) (hlc : n ≤ c) (hc : c ≤ 9223372036854775807) (hl : n ≤ 140737488351237) :
    Calls Tryd.prog 14 #[.slice A n c] w (OpenPost w l) := by
  by_cases h5 : n < 5
  · exact ropen_short w A l n c hln h5
  · obtain ⟨ad, _, rfl, _⟩ := hb.at_ (k := 0) (by omega)
    exact ropen_cut w ad l n c (n - 4) hln (by omega) (by omega) hb hlc hc hl
end Go.Proofs.YtjipeiigcoipjaaDoor.Se
