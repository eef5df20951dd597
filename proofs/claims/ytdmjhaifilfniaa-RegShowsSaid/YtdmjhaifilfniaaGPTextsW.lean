/- The walk of the program's Texts of layer reg. -/
import Derived.Test.YtdmjhaifilfniaaGPTexts
namespace Go.Proofs.Ytdmjhaifilfniaa.Rg
open Go.ChangeShapes Go.WideShapes Go.ChangeAt Go.RowKit
set_option linter.unusedVariables false

theorem psort_any (w : World) (g n : Nat) (zs : List (List UInt8)) (hl : zs.length = n) (hH : HoldsT w g zs) (hg : g < w.heap.size) (hn : n ≤ 1099511627776) :
    Calls Try.prog 16 #[.slice (some ⟨g, 0, none⟩) n n] w fun e w' => e = .returned (.tuple #[]) ∧ HoldsT w' g (sortL zs) ∧ w.grownBy w' (some g) := by
  have h := AnyM.slices_Sort_string Try.sortS g 0 n zs w hH hg (by omega)
  change Calls Try.prog 16 _ _ _ at h
  rw [hl] at h
  refine h.mono ?_
  rintro e w' ⟨rfl, m, os, rfl⟩
  exact ⟨rfl, Go.Sort.holds_grow encStr _ os g 0 _ (by simpa using hg) (Go.Sort.holds_putRow encStr _ g 0 _ _ (Go.Sort.holds_ahead encStr w m g 0 _ hH) (by simp)), Go.grownBy_sorted _⟩
theorem pcompact_any (w : World) (g n : Nat) (zs : List (List UInt8)) (hl : zs.length = n) (hH : HoldsT w g zs) (hn : n ≤ 1099511627776) :
    Calls Try.prog 17 #[.slice (some ⟨g, 0, none⟩) n n] w fun e w' => e = .returned (.slice (some ⟨g, 0, none⟩) (Go.Lib.compact zs).length n) ∧ (∃ rest, (Go.Lib.compact zs ++ rest).length = n ∧ HoldsT w' g (Go.Lib.compact zs ++ rest)) ∧ w.grownBy w' (some g) := by
  have h := AnyG.slices_Compact_string Try.compS g 0 n zs w hH (by omega) (by omega)
  change Calls Try.prog 17 _ _ _ at h
  rw [hl] at h
  refine h.mono ?_
  rintro e w' ⟨rfl, q, rfl⟩
  have hle : (Go.Lib.compact zs).length ≤ zs.length := Go.Lib.compact_length_le zs
  refine ⟨rfl, ⟨List.replicate (n - (Go.Lib.compact zs).length) [], by simp; omega, Go.Sort.holds_putRow encStr _ g 0 _ _ (Go.Sort.holds_ahead encStr w q g 0 _ hH) (by simp; omega)⟩, ?_⟩
  refine ⟨rfl, rfl, rfl, by simp, fun k hk hne => ?_⟩
  have : g ≠ k := fun e => hne (by rw [e])
  simp [Go.Sort.putRow, Go.Sort.mapBlock, Go.Sort.ahead, Array.getElem?_modify, this]

set_option maxHeartbeats 4000000 in
theorem ptexts_own (w : World) (A : Option Addr) (l : List Vl) (n c : Nat) (h : ValsAt w w.heap.size A l n c) (h40 : n ≤ 1099511627776) :
    Calls Try.prog 9 #[.slice A n c] w (OwnTexts w (textsT (l.map Prod.snd)) n) := by
  have H := Lib.hid h
  clear h
  have hTl : (l.map Prod.snd).length = n := by rw [List.length_map, H.out.len]
  have HT := Lib.hid (texts_sorted (l.map Prod.snd))
  have HL := Lib.hid (texts_long (l.map Prod.snd))
  have HS := Lib.hid (sort_len (l.map Prod.snd))
  rw [hTl] at HL HS
  obtain ⟨T, hT⟩ : ∃ T, l.map Prod.snd = T := ⟨_, rfl⟩
  rw [hT] at hTl HT HL HS
  have HE : Hid (∀ (k : Nat) (x : Vl), l[k]? = some x → T[k]? = some x.2) := Lib.hid (fun k x hx => by rw [← hT, List.getElem?_map, hx]; rfl)
  rw [hT]
  obtain ⟨U, hU⟩ : ∃ U, textsT T = U := ⟨_, rfl⟩
  rw [hU] at HT HL ⊢
  clear hT hU
  obtain ⟨Z, hZ, hmk⟩ := make_texts w n h40
  have HR := Lib.hid (CopyT.start w T (t := 9) hZ)
  have HTl := Lib.hid hTl
  clear hZ hTl
  go_enter Try.func9, Try.ntmps9
  go_wp2_with fail
  go_loopw [11] (fun i wr => ∃ (k : Nat) (rest : List Value), k ≤ n ∧ i = .int .i64 (k : Int) ∧ CopyT w T n k wr rest) (fun i _ => n - (intOf i).toNat)
  case atStart => exact ⟨0, _, Nat.zero_le _, rfl, HR.out⟩
  case round =>
    clear HR hmk
    obtain ⟨k, rest, hk, rfl, hr⟩ := hrel
    have HR := Lib.hid hr
    clear hr
    by_cases hlt : k < n
    · obtain ⟨ad, z, rfl, _, hlz, hfz, hcz⟩ := (H.out.up HR.out.bel).at_ hlt
      obtain ⟨p0, p1, p2⟩ := hcz
      have HZ := Lib.hid (HE.out k z hlz)
      have HV := Lib.hid (below_new wr (vbox z))
      obtain ⟨⟨v, c0⟩, c1⟩ := HR.out.cell HTl.out hlt HV.out
      have b2 := (vbox_new wr z _ (Below.refl _ _)).zero.2.2
      clear hlz
      go_wp2_with fail
      go_roundw
      case rel =>
        obtain ⟨rest', h⟩ := HR.out.next HTl.out hlt HV.out HZ.out
        exact ⟨k + 1, rest', by omega, by go_num, h⟩
      case measure => simp [intOf]; omega
    · obtain rfl : k = n := by omega
      have hroom := HR.out.room
      have hrow := HR.out.row
      rw [List.take_of_length_le (by rw [HTl.out]; exact Nat.le_refl _), List.eq_nil_of_length_eq_zero (show rest.length = 0 by omega), List.append_nil] at hrow
      have hH := holds_row hrow
      have CS := psort_any wr w.heap.size k (T.map bl) (by rw [List.length_map, HTl.out]) hH hrow.lt h40
      have hlt2 := Lib.hid hrow.lt
      have HB := Lib.hid HR.out.bel
      clear HR hH hrow hroom H HE
      go_wp2_with fail
      refine CS.mono ?_
      rintro e w2 ⟨rfl, hH2, hg2⟩
      have CC := pcompact_any w2 w.heap.size k (sortL (T.map bl)) HS.out hH2 h40
      have HG2 := Lib.hid hg2
      rw [HT.out] at CC
      clear hH2 hg2 CS HT
      go_wp2_with fail
      refine CC.mono ?_
      rintro e w3 ⟨rfl, ⟨rest3, hl3, hH3⟩, hg3⟩
      have HG3 := Lib.hid hg3
      have HH3 := Lib.hid hH3
      have HL3 := Lib.hid hl3
      clear hH3 hg3 CC hl3
      go_wp2
      go_ret
      refine ⟨w.heap.size, rest3, Nat.le_refl _, Nat.lt_of_lt_of_le hlt2.out (Nat.le_trans HG2.out.size HG3.out.size), HL.out, HL3.out, rfl, HH3.out, ?_⟩
      exact (HB.out.grown HG2.out HB.out.size (fun k hk => by cases hk; exact Nat.le_refl _)).grown HG3.out (Nat.le_trans HB.out.size HG2.out.size) (fun k hk => by cases hk; exact Nat.le_refl _)
theorem ptexts_any (w : World) (A : Option Addr) (l : List Vl) (n c : Nat) (h : ValsAt w w.heap.size A l n c) (h40 : n ≤ 1099511627776) :
    Calls Try.prog 9 #[.slice A n c] w (TextOut w (textsT (l.map Prod.snd))) := by
  refine (ptexts_own w A l n c h h40).mono ?_
  intro e w' hh
  refine own_out hh (fun s hs => ?_) h40
  rw [texts_mem, List.mem_map] at hs
  obtain ⟨x, hx, rfl⟩ := hs
  exact (h.fit x hx).txt
end Go.Proofs.Ytdmjhaifilfniaa.Rg
