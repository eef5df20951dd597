/- The walk of RegShows. -/
import Derived.Test.YtdmjhaifilfniaaGSide
namespace Go.Proofs.Ytdmjhaifilfniaa.Rg
open Go.ChangeShapes Go.WideShapes Go.ChangeAt Go.RowKit
set_option linter.unusedVariables false

theorem one_line (V : World) (f : Nat) (s : ByteArray) (A : Option Addr) (n c : Nat) (x : Kd.Ln) (h : Kd.LineIs V V.heap.size ⟨f, s, A, n, c⟩ x) : Kd.LinesAt (V.alloc (.cells #[.int .u8 (f : Int), .string s, .slice A n c] 37)) (V.alloc (.cells #[.int .u8 (f : Int), .string s, .slice A n c] 37)).heap.size (some ⟨V.heap.size, 0, none⟩) [x] 1 1 := by
  refine ⟨rfl, (fun h => by cases h), Nat.le_refl _, by decide, by decide, [⟨f, s, A, n, c⟩], fun _ => ⟨_, rfl, by rw [alloc_size]; exact Nat.lt_succ_self _, fun j u hu => ?_⟩, rfl, fun k p y hp hy => ?_⟩
  · rw [Dt.zero_add, World.cell?_alloc_new]
    have e : Kd.lv [⟨f, s, A, n, c⟩] = [.int .u8 (f : Int), .string s, .slice A n c] := rfl
    rw [e] at hu
    simpa using hu
  · cases k with
    | zero =>
      simp at hp hy
      subst hp hy
      exact (h.below (below_new V _)).more_ (below_new V _).size
    | succ k => simp at hp
theorem lines_up {w W : World} {A : Option Addr} {l : List Kd.Ln} {n c : Nat} (h : Kd.LinesAt w w.heap.size A l n c) (hb : Below w.heap.size w W) : Kd.LinesAt W W.heap.size A l n c := (h.below hb).more hb.size

set_option maxHeartbeats 8000000 in
theorem shows_walk (P : PReg) (w : World) (f : Nat) (A : Option Addr) (l : List Vl) (n c : Nat) (hf : f < 256) (h : ValsAt w w.heap.size A l n c) :
    Calls Try.prog 3 #[.int .u8 (f : Int), .slice A n c] w fun e w' => e = .returned (.bool true) ∧ Below w.heap.size w w' := by
  have H := Lib.hid h
  have h63 : n ≤ 281474976710656 := Nat.le_trans h.wide (by decide)
  clear h
  by_cases hn : 100 < n
  · go_enter Try.func3, Try.ntmps3
    go_wp2_with fail
    refine (works_any P _).mono ?_
    rintro e w1 ⟨rfl, hb⟩
    have HB := Lib.hid hb
    clear hb
    go_wp2
    go_ret
    exact ⟨rfl, HB.out⟩
  · have hn1 : n ≤ 100 := by omega
    have h40 : n ≤ 1099511627776 := by omega
    obtain ⟨y, hy⟩ : ∃ y, winV l = y := ⟨_, rfl⟩
    obtain ⟨b, hb⟩ : ∃ b, decide (0 < l.length) = b := ⟨_, rfl⟩
    have CW := P.winner w A l n c H.out hn1
    rw [hy, hb] at CW
    go_enter Try.func3, Try.ntmps3
    go_wp2_with fail
    refine CW.mono ?_
    rintro e w1 ⟨rfl, hb1⟩
    have HB1 := Lib.hid (bel_alloc (vbox y) hb1)
    have CV := rwinner_any (w1.alloc (vbox y)) A l n c (H.out.up HB1.out)
    rw [hy, hb] at CV
    clear hb1 CW
    go_wp2_with fail
    refine CV.mono ?_
    rintro e w2 ⟨rfl, hb2⟩
    have HB2 := Lib.hid (HB1.out.trans (hb2.mono HB1.out.size))
    have HB3 := Lib.hid (bel_alloc (vbox y) HB2.out)
    have HV := Lib.hid (vbox_new w1 y w2 (hb2.mono (by rw [alloc_size]; exact Nat.le_refl _)))
    obtain ⟨v0, v1, v2⟩ := (HV.out.kept (below_new w2 (vbox y))).zero
    have CT := P.texts (w2.alloc (vbox y)) A l n c (H.out.up HB3.out) hn1
    clear hb2 CV
    go_wp2_with fail
    refine CT.mono ?_
    rintro e w3 ⟨A3, n3, c3, rfl, ht3, hb3⟩
    have HT3 := Lib.hid ht3
    have HB4 := Lib.hid (HB3.out.trans (hb3.mono HB3.out.size))
    have CU := rtexts_any w3 A l n c (H.out.up HB4.out) h40
    clear ht3 hb3 CT v0 v1 v2 HV
    go_wp2_with fail
    refine CU.mono ?_
    rintro e w4 ⟨A4, n4, c4, rfl, ht4, _, hb4⟩
    have HB5 := Lib.hid (HB4.out.trans (hb4.mono HB4.out.size))
    have CE := Kd.rtexts_any w4 _ _ A3 A4 (textsT (l.map Prod.snd)) (textsT (l.map Prod.snd)) n3 n4 c3 c4 (HT3.out.up hb4) ht4
    rw [decide_eq_true rfl] at CE
    clear ht4 hb4 CU
    go_wp2_with fail
    refine CE.mono ?_
    rintro e w5 ⟨rfl, m5, rfl⟩
    have HB6 := Lib.hid (Kd.bel_drewN HB5.out m5)
    have CS := P.shows (w4.drewN m5) f A l n c hf (H.out.up HB6.out) hn1
    clear CE
    go_wp2_with fail
    refine CS.mono ?_
    rintro e w6 ⟨⟨p0, p1, p2, p3, p4⟩, rfl, hp, hb6⟩
    have HB7 := Lib.hid (bel_alloc (.cells #[.int .u8 (p0 : Int), .string p1, .slice p2 p3 p4] 37) (HB6.out.trans (hb6.mono HB6.out.size)))
    have HL7 := Lib.hid (one_line w6 p0 p1 p2 p3 p4 _ hp)
    have CD := rshow_any (w6.alloc (.cells #[.int .u8 (p0 : Int), .string p1, .slice p2 p3 p4] 37)) f A l n c hf (H.out.up HB7.out) h40
    clear hp hb6 CS
    go_wp2_with fail
    refine CD.mono ?_
    rintro e w7 ⟨⟨q0, q1, q2, q3, q4⟩, rfl, hq, _, hb7⟩
    have HB8 := Lib.hid (bel_alloc (.cells #[.int .u8 (q0 : Int), .string q1, .slice q2 q3 q4] 37) (HB7.out.trans (hb7.mono HB7.out.size)))
    have CL := Kd.rlines_any (w7.alloc (.cells #[.int .u8 (q0 : Int), .string q1, .slice q2 q3 q4] 37)) _ _ _ _ [showV f l] [showV f l] 1 1 1 1 (lines_up HL7.out (bel_alloc _ hb7)) (one_line w7 q0 q1 q2 q3 q4 _ hq)
    rw [decide_eq_true rfl] at CL
    clear hq hb7 CD HL7
    go_wp2_with fail
    refine CL.mono ?_
    rintro e w8 ⟨rfl, m8, rfl⟩
    have HB9 := Lib.hid (Kd.bel_drewN HB8.out m8)
    clear CL
    go_wp2_with fail
    refine (works_any P _).mono ?_
    rintro e w9 ⟨rfl, hb9⟩
    have HB10 := Lib.hid (HB9.out.trans (hb9.mono HB9.out.size))
    clear hb9
    go_wp2
    go_ret
    exact ⟨rfl, HB10.out⟩
end Go.Proofs.Ytdmjhaifilfniaa.Rg
