/- The contract of the program's Show of layer reg; all that the walks ask. -/
import Derived.Test.YtdmjhaifilfniaaGPOthers
namespace Go.Proofs.Ytdmjhaifilfniaa.Rg
open Go.ChangeShapes Go.WideShapes Go.ChangeAt Go.RowKit
set_option linter.unusedVariables false

/-- all texts, met later. -/
theorem texts_later {w W : World} {A : Option Addr} {l : List Vl} {T : List ByteArray} {n c : Nat} (h : ValsAt w w.heap.size A l n c) (h40 : n ≤ 1099511627776) (hT : textsT (l.map Prod.snd) = T) (hW : Below w.heap.size w W) :
    Calls Try.prog 9 #[.slice A n c] W fun e V => ∃ (g : Nat) (rest : List (List UInt8)), w.heap.size ≤ g ∧ g < V.heap.size ∧ T.length ≤ n ∧ e = .returned (.slice (some ⟨g, 0, none⟩) T.length n) ∧ HoldsT V g (T.map bl ++ rest) ∧ Below w.heap.size w V := by
  refine (ptexts_own W A l n c (h.up hW) h40).mono ?_
  rw [hT]
  rintro e V ⟨g, rest, h1, h2, h3, h4, rfl, h5, h6⟩
  exact ⟨g, rest, Nat.le_trans hW.size h1, h2, h3, rfl, h5, hW.trans (h6.mono hW.size)⟩
/-- the others, met later. -/
theorem others_later {w W V : World} {g n : Nat} {l : List ByteArray} {rest : List (List UInt8)} (s : ByteArray) (hH : HoldsT V g (l.map bl ++ rest)) (hwg : w.heap.size ≤ g) (hg : g < V.heap.size) (hm : l.length ≤ n) (hn : n ≤ 1099511627776) (hV : Below w.heap.size w V) (hW : Below V.heap.size V W) :
    Calls Try.prog 19 #[.slice (some ⟨g, 0, none⟩) l.length n, .string s] W fun e U => e = .returned (.slice (some ⟨g, 0, none⟩) (otherT s l).length n) ∧ HoldsT U g ((otherT s l).map bl) ∧ g < U.heap.size ∧ Below w.heap.size w U := by
  refine (pothers_any W g l.length n l s rfl (holds_later (holds_part hH) hg hW) (Nat.lt_of_lt_of_le hg hW.size) hm hn).mono ?_
  rintro e U ⟨rfl, h2, h3⟩
  have h4 := hV.trans (hW.mono hV.size)
  exact ⟨rfl, h2, Nat.lt_of_lt_of_le hg (Nat.le_trans hW.size h3.size), h4.grown h3 h4.size (fun k hk => by cases hk; exact hwg)⟩
theorem lies_own_holds {w : World} {g : Nat} {l : List ByteArray} (hg : g < w.heap.size) (h : HoldsT w g (l.map bl)) : Dt.Lies w w.heap.size (some ⟨g, 0, none⟩) (Kd.tv l) := lies_holds (rest := []) hg (by rw [List.append_nil]; exact h)

set_option maxHeartbeats 8000000 in
theorem pshow_any (w : World) (f : Nat) (A : Option Addr) (l : List Vl) (n c : Nat) (hf : f < 256) (h : ValsAt w w.heap.size A l n c) (h40 : n ≤ 1099511627776) :
    Calls Try.prog 12 #[.int .u8 (f : Int), .slice A n c] w (LineOut w (showV f l)) := by
  have H := Lib.hid h
  clear h
  have HB1 := Lib.hid (below_new w (lbox 0 ⟨#[]⟩))
  have HR1 := Lib.hid (At.new w 37 #[.int .u8 0, .string ⟨#[]⟩, .slice none 0 0])
  have CW := pwinner_any (w.alloc (lbox 0 ⟨#[]⟩)) A l n c (H.out.up HB1.out)
  by_cases h0 : n = 0
  · subst h0
    obtain rfl := List.eq_nil_of_length_eq_zero H.out.len
    go_enter Try.func12, Try.ntmps12
    go_wp2_with fail
    refine CW.mono ?_
    rintro e w2 ⟨rfl, hb⟩
    have G1 := HR1.out.up hb
    have HB2 := Lib.hid (HB1.out.trans (hb.mono HB1.out.size))
    have HB3 := Lib.hid (bel_alloc (vbox (winV [])) HB2.out)
    have G2 := G1.up (below_new w2 (vbox (winV [])))
    have G3 := G2.set 0 (.int .u8 0)
    have G4 := G3.set 1 (.string ⟨#[]⟩)
    have G5 := G4.set 2 (.slice none 0 0)
    have z0 := G2.cell 0
    have z1 := G3.cell 1
    have z2 := G4.cell 2
    have f0 := G2.frozen 0
    have f1 := G3.frozen 1
    have f2 := G4.frozen 2
    have g0 := G5.cell 0
    have g1 := G5.cell 1
    have g2 := G5.cell 2
    have e0 : decide (0 < ([] : List Vl).length) = false := rfl
    simp at z0 z1 z2 g0 g1 g2
    have HX := Lib.hid (((HB3.out.setCell (p := ⟨w.heap.size, 0, none⟩) (Nat.le_refl _) (.int .u8 0)).setCell (p := ⟨w.heap.size, 1, none⟩) (Nat.le_refl _) (.string ⟨#[]⟩)).setCell (p := ⟨w.heap.size, 2, none⟩) (Nat.le_refl _) (.slice none 0 0))
    clear hb G1 G2 G3 G4 G5
    go_wp2
    refine bodyPost_ret (v := .agg #[.int .u8 0, .string ⟨#[]⟩, .slice none 0 0]) ?_ rfl ?_
    · simp [results, Try.f12, go_sem, g0, g1, g2]
    · exact ⟨⟨0, ⟨#[]⟩, none, 0, 0⟩, rfl, ⟨rfl, (show (0 : Nat) < 256 by decide), rfl, short_empty, Kd.TextsAt.none_ _ _⟩, HX.out⟩
  · have hlp : 0 < l.length := by rw [H.out.len]; omega
    have hys : Hid (Kd.Short (winV l).2) := Lib.hid (H.out.fit _ (win_mem (fun e => by rw [e] at hlp; simp at hlp))).txt
    have hsv := Lib.hid (show_some (f := f) hlp)
    have hd := decide_eq_true hlp
    have HF : Hid (∀ s, s ∈ textsT (l.map Prod.snd) → Kd.Short s) := Lib.hid (fun s hs => by
      rw [texts_mem, List.mem_map] at hs
      obtain ⟨x, hx, rfl⟩ := hs
      exact (H.out.fit x hx).txt)
    obtain ⟨y, hy⟩ : ∃ y, winV l = y := ⟨_, rfl⟩
    obtain ⟨T, hT⟩ : ∃ T, textsT (l.map Prod.snd) = T := ⟨_, rfl⟩
    rw [hy, hT] at hsv
    rw [hy] at hys
    rw [hy, hd] at CW
    rw [hT] at HF
    have HT := Lib.hid hT
    clear hy hd hT
    go_enter Try.func12, Try.ntmps12
    go_wp2_with fail
    refine CW.mono ?_
    rintro e w2 ⟨rfl, hb⟩
    have HB2 := Lib.hid (HB1.out.trans (hb.mono HB1.out.size))
    have HR2 := Lib.hid (HR1.out.up hb)
    clear hb HB1 HR1 CW
    have HB3 : Hid (Below w.heap.size w (w2.alloc (vbox y))) := Lib.hid (bel_alloc _ HB2.out)
    have HR3 : Hid (At (w2.alloc (vbox y)) w.heap.size 37 #[.int .u8 0, .string ⟨#[]⟩, .slice none 0 0]) := Lib.hid (HR2.out.up (below_new _ _))
    have HV3 : Hid (At (w2.alloc (vbox y)) w2.heap.size 29 #[.int .u16 (y.1.1 : Int), .int .u64 (y.1.2 : Int), .string y.2]) := Lib.hid (At.new w2 _ _)
    have H3 := Lib.hid (H.out.up HB3.out)
    have hw2 : w.heap.size < w2.heap.size := HR2.out.lt
    clear HB2 HR2 H
    have hlt3 : Hid (w2.heap.size < (w2.alloc (vbox y)).heap.size) := Lib.hid (by rw [alloc_size]; omega)
    go_wp2_with fail
    generalize w2.alloc (vbox y) = W3 at *
    have HK : Hid (∀ V, Below W3.heap.size W3 V → V.cell? ⟨w2.heap.size, 2, none⟩ = some (.string y.2)) := Lib.hid (fun V hV => by
      have h2 := (HV3.out.up hV).cell 2
      simpa using h2)
    have HQ : Hid (∀ V, Below W3.heap.size W3 V → At V w.heap.size 37 #[.int .u8 0, .string ⟨#[]⟩, .slice none 0 0] ∧ (V.cell? ⟨w.heap.size, 0, none⟩ = some (.int .u8 0) ∧ V.cell? ⟨w.heap.size, 1, none⟩ = some (.string ⟨#[]⟩) ∧ V.cell? ⟨w.heap.size, 2, none⟩ = some (.slice none 0 0)) ∧ V.frozen? ⟨w.heap.size, 0, none⟩ = false ∧ V.frozen? ⟨w.heap.size, 1, none⟩ = false ∧ V.frozen? ⟨w.heap.size, 2, none⟩ = false) := Lib.hid (fun V hV => by
      have h := HR3.out.up hV
      have e0 := h.cell 0
      have e1 := h.cell 1
      have e2 := h.cell 2
      exact ⟨h, ⟨by simpa using e0, by simpa using e1, by simpa using e2⟩, h.frozen 0, h.frozen 1, h.frozen 2⟩)
    have CT := fun W (hW : Below W3.heap.size W3 W) => texts_later H3.out h40 HT.out hW
    have k0 := HK.out _ (Below.refl _ _)
    have hne1 : ¬ w2.heap.size = w.heap.size := by omega
    have hne2 : ¬ w.heap.size = w2.heap.size := by omega
    clear HV3 HR3 H3
    go_region_held3 (fun V => V.cell? ⟨w2.heap.size, 2, none⟩ = some (.string y.2)) (first | go_keep | assumption | exact HK.out _ (by (repeat (first | exact Below.refl _ _ | assumption | apply bel_drew)))) (first
      | (go_at_call 9; (with_reducible refine (CT _ ?_).mono ?_); (repeat (first | exact Below.refl _ _ | assumption | apply bel_drew)); rintro e V ⟨g, rest, hwg, hg, hle, rfl, hH, bv⟩; have k1 := HK.out V bv)
      | (go_at_call 19; (with_reducible refine (others_later y.2 hH hwg hg hle h40 bv ?_).mono ?_); (repeat (first | exact Below.refl _ _ | assumption | apply bel_drew)); rintro e U ⟨rfl, hH2, hg2, bu⟩; have k2 := HK.out U bu; obtain ⟨HU, ⟨a0, a1, a2⟩, b0, b1, b2⟩ := HQ.out U bu))
    all_goals
      have G3 := HU.set 0 (.int .u8 (f : Int))
      have G4 := G3.set 1 (.string y.2)
      have G5 := G4.set 2 (.slice (some ⟨g, 0, none⟩) (otherT y.2 T).length n)
      have g0 := G5.cell 0
      have g1 := G5.cell 1
      have g2 := G5.cell 2
      simp at g0 g1 g2
      have hgne : ∀ ad, (some ⟨g, 0, none⟩ : Option Addr) = some ad → 0 < (otherT y.2 T).length → ad.block ≠ w.heap.size := fun ad e _ => by
        cases e
        have := hlt3.out
        show g ≠ w.heap.size
        omega
      have hbu := HB3.out.trans (bu.mono HB3.out.size)
      have HBX : Hid (Below w.heap.size w (((U.setCell ⟨w.heap.size, 0, none⟩ (.int .u8 (f : Int))).setCell ⟨w.heap.size, 1, none⟩ (.string y.2)).setCell ⟨w.heap.size, 2, none⟩ (.slice (some ⟨g, 0, none⟩) (otherT y.2 T).length n))) :=
        Lib.hid (((hbu.setCell (Nat.le_refl _) _).setCell (Nat.le_refl _) _).setCell (Nat.le_refl _) _)
      have hle2 : (otherT y.2 T).length ≤ T.length := by unfold otherT; exact List.length_filter_le _ _
      have HTX : Hid (Kd.TextsAt (((U.setCell ⟨w.heap.size, 0, none⟩ (.int .u8 (f : Int))).setCell ⟨w.heap.size, 1, none⟩ (.string y.2)).setCell ⟨w.heap.size, 2, none⟩ (.slice (some ⟨g, 0, none⟩) (otherT y.2 T).length n)) (((U.setCell ⟨w.heap.size, 0, none⟩ (.int .u8 (f : Int))).setCell ⟨w.heap.size, 1, none⟩ (.string y.2)).setCell ⟨w.heap.size, 2, none⟩ (.slice (some ⟨g, 0, none⟩) (otherT y.2 T).length n)).heap.size (some ⟨g, 0, none⟩) (otherT y.2 T) (otherT y.2 T).length n) := Lib.hid (by
        have h : Kd.TextsAt U U.heap.size (some ⟨g, 0, none⟩) (otherT y.2 T) (otherT y.2 T).length n := ⟨rfl, (fun e => by cases e), by omega, by omega, by omega, fun s hs => HF.out s (other_mem.1 hs).1, lies_own_holds hg2 hH2⟩
        rw [size_set, size_set, size_set]
        exact texts_set (texts_set (texts_set h hgne _) hgne _) hgne _)
      clear G3 G4 G5 a0 a1 a2 b0 b1 b2 HU hbu CT HK HQ k0 k1 k2
      go_wp2
      refine bodyPost_ret (v := .agg #[.int .u8 (f : Int), .string y.2, .slice (some ⟨g, 0, none⟩) (otherT y.2 T).length n]) ?_ rfl ?_
      · simp [results, Try.f12, go_sem, g0, g1, g2]
      · rw [hsv.out]
        exact ⟨⟨f, y.2, some ⟨g, 0, none⟩, (otherT y.2 T).length, n⟩, rfl, ⟨rfl, hf, rfl, hys.out, HTX.out⟩, HBX.out⟩
theorem preg : PReg := ⟨fun w A l n c h _ => pwinner_any w A l n c h, fun w A l n c h hn => ptexts_any w A l n c h (by omega), fun w f A l n c hf h hn => pshow_any w f A l n c hf h (by omega)⟩
end Go.Proofs.Ytdmjhaifilfniaa.Rg
