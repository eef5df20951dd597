/- The contract of the document's Of of layer vec. For every list of dots. -/
import Derived.Test.YtbpmbjpepjndaaaVPut
import Derived.Test.YtbpmbjpepjndaaaVPlain
import Derived.Shelf.SlSortCmp.QuietGrown
namespace Go.Proofs.Ytbpmbjpepjndaaa.Dt
open Go.ChangeShapes Go.WideShapes Go.ChangeAt Go.RowKit
set_option linter.unusedVariables false

theorem below_grow (V : World) (n : Nat) (os : Array Obj) : Below V.heap.size V (Sort.grow (V.drewN n) os) :=
  ⟨rfl, rfl, rfl, by show V.heap.size ≤ (V.heap ++ os).size; simp, fun i hi => by show (V.heap ++ os)[i]? = V.heap[i]?; exact Array.getElem?_append_left hi⟩
theorem rgood_g (W : World) (d : Dot) (b : Bool) (hb : mayD d = b) :
    Calls Try.prog 10 #[.agg #[.int .u16 (d.1 : Int), .int .u64 (d.2 : Int)]] W fun e w' => e = .returned (.bool b) ∧ ∃ q os', w' = Sort.grow (W.drewN q) os' :=
  (rgood_any W d.1 d.2).mono fun _ _ ⟨h1, h2⟩ => ⟨by rw [h1, ← hb], 0, _, h2.trans (Sort.alloc_eq_grow _ _)⟩
theorem of_next {l : List Dot} {k : Nat} {x : Dot} (d : Nat) (h : l[k]? = some x) : ofV (l.take (k + 1)) d = stepV d (ofV (l.take k) d) x := by
  unfold ofV
  rw [take_next h, List.foldl_append]; rfl
set_option maxHeartbeats 2000000 in
theorem rof_any (w : World) (A : Option Addr) (l : List Dot) (n c : Nat) (d : Nat) (hl : l.length = n) (hb : Dots w w.heap.size A l) (h63 : n ≤ 9223372036854775807) :
    Calls Try.prog 16 #[.slice A n c, .int .u16 (d : Int)] w fun e w' => e = .returned (.int .u64 ((ofV l d : Nat) : Int)) ∧ Below w.heap.size w w' := by
  have HL := Lib.hid hl
  have H1 := Lib.hid hb
  clear hb hl
  go_enter Try.func16, Try.ntmps16
  go_wp2_with fail
  go_loopw [5, 6] (fun v i wr => ∃ k : Nat, k ≤ n ∧ i = .int .i64 (k : Int) ∧ v = .int .u64 ((ofV (l.take k) d : Nat) : Int) ∧ Below w.heap.size w wr) (fun _ i _ => n - (intOf i).toNat)
  case atStart => exact ⟨0, Nat.zero_le _, rfl, rfl, Below.refl _ _⟩
  case round =>
    obtain ⟨k, hk, rfl, rfl, hw⟩ := hrel
    have HW := Lib.hid hw
    clear hw
    by_cases hlt : k < n
    · obtain ⟨ad, x, rfl, hB, hlx, hx1, hx2, hcx⟩ := H1.out.cells (k := k) (by rw [HL.out]; exact hlt)
      have HN := Lib.hid (of_next d hlx)
      clear hlx
      obtain ⟨o, ho⟩ : ∃ o, ofV (l.take k) d = o := ⟨_, rfl⟩
      rw [ho] at HN ⊢
      obtain ⟨x1, x2⟩ := x
      have HC : Hid (∀ V, Below wr.heap.size wr V → V.cell? (ad.add (k * 2)) = some (.int .u16 (x1 : Int)) ∧ V.cell? ⟨(ad.add (k * 2)).block, (ad.add (k * 2)).off + 1, none⟩ = some (.int .u64 (x2 : Int))) := fun V hV =>
        hcx V (HW.out.trans (hV.mono HW.out.size))
      clear hcx ho
      obtain ⟨d1, d2⟩ := HC.out wr (Below.refl _ _)
      by_cases hd : x1 = d
      · subst hd
        obtain ⟨b, hm⟩ : ∃ b, mayD (x1, x2) = b := ⟨_, rfl⟩
        have CG := fun W => rgood_any W x1 x2
        rw [hm] at CG
        have HB1 : Hid (Below wr.heap.size wr (wr.alloc (.cells #[.int .u16 (x1 : Int), .int .u64 (x2 : Int)] 27))) := below_new _ _
        have HW2 : Hid (Below w.heap.size w (wr.alloc (.cells #[.int .u16 (x1 : Int), .int .u64 (x2 : Int)] 27))) := HW.out.trans (HB1.out.mono HW.out.size)
        go_wp2_with fail
        refine (CG _).mono ?_
        rintro e V ⟨rfl, hV⟩
        obtain ⟨v1, v2⟩ := HC.out V (by rw [hV]; exact HB1.out)
        have HV : Hid (Below w.heap.size w V) := Lib.hid (by rw [hV]; exact HW2.out)
        clear hV d1 d2 CG HC HB1 HW2
        cases b with
        | true =>
          by_cases hgt : o < x2
          · have HS : Hid (ofV (l.take (k + 1)) x1 = x2) := Lib.hid (by rw [HN.out]; exact if_pos ⟨rfl, hm, hgt⟩)
            clear hm HN
            go_wp2
            go_roundw
            case rel => exact ⟨k + 1, by omega, by go_num, by rw [HS.out], HV.out⟩
            case measure => simp [intOf]; omega
          · have HS : Hid (ofV (l.take (k + 1)) x1 = o) := Lib.hid (by rw [HN.out]; exact if_neg (fun h => hgt h.2.2))
            clear hm HN
            go_wp2
            go_roundw
            case rel => exact ⟨k + 1, by omega, by go_num, by rw [HS.out], HV.out⟩
            case measure => simp [intOf]; omega
        | false =>
          have HS : Hid (ofV (l.take (k + 1)) x1 = o) := Lib.hid (by rw [HN.out]; exact if_neg (fun h => by have := h.2.1; rw [hm] at this; cases this))
          clear hm HN
          go_wp2
          go_roundw
          case rel => exact ⟨k + 1, by omega, by go_num, by rw [HS.out], HV.out⟩
          case measure => simp [intOf]; omega
      · have hb2 : ((x1 : Int) == (d : Int)) = false := by rw [beq_eq_false_iff_ne]; omega
        have HS : Hid (ofV (l.take (k + 1)) d = o) := Lib.hid (by rw [HN.out]; exact if_neg (fun h => hd h.1))
        clear HC HN
        go_wp2
        go_roundw
        case rel => exact ⟨k + 1, by omega, by go_num, by rw [HS.out], HW.out⟩
        case measure => simp [intOf]; omega
    · obtain rfl : k = n := by omega
      have e : Hid (l.take k = l) := Lib.hid (List.take_of_length_le (by rw [HL.out]; exact Nat.le_refl _))
      rw [e.out]
      go_wp2
      go_ret
      exact ⟨rfl, HW.out⟩
end Go.Proofs.Ytbpmbjpepjndaaa.Dt
