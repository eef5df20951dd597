/- FieldBack: the law's walk, over texts of at most 2^45 bytes. -/
import Derived.Test.YtmaiilhfdiimjaaDoorFOf
namespace Go.Proofs.YtmaiilhfdiimjaaDoor.Fd
open Go.ChangeShapes Go.WideShapes Go.ChangeAt Go.RowKit
set_option linter.unusedVariables false

theorem sum_list (s t : ByteArray) : (s ++ t).data.toList = s.data.toList ++ t.data.toList := by simp
theorem text_short {l : List UInt8} (h : textB l = true) : l.length ≤ 60 := by
  unfold textB at h
  rw [Bool.and_eq_true] at h
  exact of_decide_eq_true h.2
/-- what the first call answers. -/
theorem back_one (s r : ByteArray) (h : textB s.data.toList = true) : unqV (unqB (ba (quoB s.data.toList) ++ r).data.toList) = .tuple #[.string s, .string r, .bool true] := by
  rw [sum_list, list_ba, unq_quo h, unqV_some, ba_list, ba_list]
theorem back_two (s r : ByteArray) (h : textB s.data.toList = false) : unqV (unqB (ba (quoB s.data.toList) ++ r).data.toList) = .tuple #[.string ⟨#[]⟩, .string ⟨#[]⟩, .bool false] := by
  rw [sum_list, list_ba, unq_bad h]; rfl
/-- the last part: each field has its name back. -/
def BackPost (w : World) (e : Ending) (w' : World) : Prop := e = .returned (.bool true) ∧ Below w.heap.size w w'

set_option maxHeartbeats 8000000 in
theorem back_walk (w : World) (s r : ByteArray) (f : Nat) (hf : f < 256) (hs : s.size ≤ 35184372088832) (hr : r.size ≤ 281474976710656) (hN : Names w) :
    Calls Tryd.prog 4 #[.string s, .string r, .int .u8 (f : Int)] w fun e w' => e = .returned (.bool true) ∧ Below w.heap.size w w' := by
  have CQ := fun W => pquote_any s W hs
  have hql : (ba (quoB s.data.toList)).size ≤ 70368744177666 := by
    have := esc_length s.data.toList
    rw [ba_size]; unfold quoB; simp at this ⊢; omega
  have hadd := fun W => run_string_add_sum (P := Tryd.prog) W (ba (quoB s.data.toList)) r (by omega)
  have CU := fun W => punquote_any (ba (quoB s.data.toList) ++ r) W (by rw [ByteArray.size_append]; omega)
  have CT := fun W => ptext_any s W (by omega)
  have CR := fun W => punquote_any r W (by omega)
  have H1 := Lib.hid (back_one s r)
  have H2 := Lib.hid (back_two s r)
  have HL := Lib.hid (ba_list r)
  generalize ba (quoB s.data.toList) = q at *
  have CW := fun W => works_any W
  have CN := fun W hW => pname_any W f hf hW
  have CO := fun W hW => pof_any (ba (nameB f)) W hW
  rw [list_ba, of_name] at CO
  have CG := fun W => pgood_any W f hf
  have HN := Lib.hid hN
  generalize ba (nameB f) = n at CN CO
  clear hN
  cases ht : textB s.data.toList
  all_goals
    rw [ht] at CT
    first
      | rw [H1.out ht] at CU
      | rw [H2.out ht] at CU
    clear H1 H2 ht hql
    cases hg : goodB f
    all_goals
      rw [hg] at CG
      first
        | rw [hg, if_neg (by decide)] at CO
        | rw [hg, if_pos rfl] at CO
      unfold ofV at CO
      simp only at CO
      clear hg
      cases hu : unqB r.data.toList with
      | none =>
        rw [hu, unqV_none] at CR
        clear hu HL
        go_enter Tryd.func4, Tryd.ntmps4
        go_wp2_with fail
        refine (CQ _).mono ?_
        rintro e w1 ⟨rfl, hb1⟩
        have HB1 := Lib.hid hb1
        clear hb1
        go_wp2_with fail
        refine (CU _).mono ?_
        rintro e w2 ⟨rfl, hb2⟩
        have HB2 : Hid (Below w.heap.size w w2) := HB1.out.trans (hb2.mono HB1.out.size)
        clear hb2
        go_wp2_with fail
        refine (CT _).mono ?_
        rintro e w' ⟨rfl, rfl⟩
        go_wp2_with fail
        refine (CR _).mono ?_
        rintro e w3 ⟨rfl, hb3⟩
        have HB3 : Hid (Below w.heap.size w w3) := HB2.out.trans (hb3.mono HB2.out.size)
        clear hb3
        go_wp2_with fail
        refine (CN _ (HN.out.below HB3.out)).mono ?_
        rintro e w' ⟨rfl, rfl⟩
        go_wp2_with fail
        refine (CO _ (HN.out.below HB3.out)).mono ?_
        rintro e w' ⟨rfl, rfl⟩
        go_wp2_with fail
        refine (CG _).mono ?_
        rintro e w' ⟨rfl, rfl⟩
        go_wp2_with fail
        refine (CW _).mono ?_
        rintro e w9 ⟨rfl, hb9⟩
        have HB9 : Hid (Below w.heap.size w w9) := HB3.out.trans (hb9.mono HB3.out.size)
        clear hb9
        go_wp2
        go_ret
        exact ⟨rfl, HB9.out⟩
      | some p =>
        obtain ⟨t, d⟩ := p
        obtain ⟨hqd, htx⟩ := unq_back hu
        have hl := text_short htx
        have CP := fun W => pquote_any (ba t) W (by rw [ba_size]; omega)
        rw [list_ba] at CP
        have hql2 : (ba (quoB t)).size ≤ 122 := by
          have := esc_length t
          rw [ba_size]; unfold quoB; simp at this ⊢; omega
        have hdl : (ba d).size ≤ 281474976710656 := by
          have := congrArg List.length hqd
          rw [List.length_append, list_size] at this
          rw [ba_size]; omega
        have hadd2 := fun W => run_string_add_sum (P := Tryd.prog) W (ba (quoB t)) (ba d) (by omega)
        rw [ba_add, hqd, HL.out] at hadd2
        rw [hu, unqV_some] at CR
        generalize ba (quoB t) = q2 at CP hadd2
        generalize ba t = t2 at CP CR
        generalize ba d = d2 at hadd2 CR
        clear hu HL hqd htx hl hql2 hdl
        go_enter Tryd.func4, Tryd.ntmps4
        go_wp2_with fail
        refine (CQ _).mono ?_
        rintro e w1 ⟨rfl, hb1⟩
        have HB1 := Lib.hid hb1
        clear hb1
        go_wp2_with fail
        refine (CU _).mono ?_
        rintro e w2 ⟨rfl, hb2⟩
        have HB2 : Hid (Below w.heap.size w w2) := HB1.out.trans (hb2.mono HB1.out.size)
        clear hb2
        go_wp2_with fail
        refine (CT _).mono ?_
        rintro e w' ⟨rfl, rfl⟩
        go_wp2_with fail
        refine (CR _).mono ?_
        rintro e w3 ⟨rfl, hb3⟩
        have HB3 : Hid (Below w.heap.size w w3) := HB2.out.trans (hb3.mono HB2.out.size)
        clear hb3
        go_wp2_with fail
        refine (CP _).mono ?_
        rintro e w4 ⟨rfl, hb4⟩
        have HB4 : Hid (Below w.heap.size w w4) := HB3.out.trans (hb4.mono HB3.out.size)
        clear hb4
        go_wp2_with fail
        refine (CN _ (HN.out.below HB4.out)).mono ?_
        rintro e w' ⟨rfl, rfl⟩
        go_wp2_with fail
        refine (CO _ (HN.out.below HB4.out)).mono ?_
        rintro e w' ⟨rfl, rfl⟩
        go_wp2_with fail
        refine (CG _).mono ?_
        rintro e w' ⟨rfl, rfl⟩
        go_wp2_with fail
        refine (CW _).mono ?_
        rintro e w9 ⟨rfl, hb9⟩
        have HB9 : Hid (Below w.heap.size w w9) := HB4.out.trans (hb9.mono HB4.out.size)
        clear hb9
        go_wp2
        go_ret
        exact ⟨rfl, HB9.out⟩
end Go.Proofs.YtmaiilhfdiimjaaDoor.Fd
