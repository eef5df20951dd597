/- DotParses: the law's walk. -/
import Derived.Test.YtoojlalpcmlanaaDoorDTellsW
namespace Go.Proofs.YtoojlalpcmlanaaDoor.Dt
open Go.ChangeShapes Go.WideShapes Go.ChangeAt Go.RowKit
set_option linter.unusedVariables false

theorem parse_fit (l : List UInt8) : FitD (parseB l).1 := by
  cases h : (parseB l).2 with
  | true =>
    obtain ⟨_, h1, h2⟩ := parse_back h
    have h3 := (may_iff _).1 h1
    exact ⟨by omega, by omega⟩
  | false => rw [parse_no h]; exact ⟨by decide, by decide⟩
theorem text_back {s : ByteArray} (h : (parseB s.data.toList).2 = true) : textA (parseB s.data.toList).1 = s := by
  have h1 := (parse_back h).1
  rw [textA_eq, ← h1]
set_option maxHeartbeats 8000000 in
theorem parses_walk (P : PDot) (w : World) (hV : Vars w) (s : ByteArray) (hs : s.size ≤ 281474976710656) :
    Calls Tryd.prog 5 #[.string s] w fun e w' => e = .returned (.bool true) ∧ Below w.heap.size w w' := by
  have CP := fun W h => P.parse W s h hs
  have CR := fun W => rparse_any s W (by unfold maxLen; omega)
  have HV := Lib.hid hV
  clear hV
  have HF := parse_fit s.data.toList
  have HT := @text_back s
  generalize parseB s.data.toList = u at CP CR HF HT
  obtain ⟨⟨u1, u2⟩, ok⟩ := u
  simp only at CP CR HF HT
  go_enter Tryd.func5, Tryd.ntmps5
  go_wp2_with fail
  refine (CP _ HV.out).mono ?_
  rintro e w2 ⟨rfl, hb2⟩
  have HB2 := Lib.hid hb2
  go_wp2_with fail
  have hd1 : (w2.alloc (.cells #[.int .u16 (u1 : Int), .int .u64 (u2 : Int)] 25)).cell? ⟨w2.heap.size, 0, none⟩ = some (.int .u16 (u1 : Int)) := by simp [go_sem]
  have hd2 : (w2.alloc (.cells #[.int .u16 (u1 : Int), .int .u64 (u2 : Int)] 25)).cell? ⟨w2.heap.size, 1, none⟩ = some (.int .u64 (u2 : Int)) := by simp [go_sem]
  have HB3 := Lib.hid (below_new w2 (.cells #[.int .u16 (u1 : Int), .int .u64 (u2 : Int)] 25))
  generalize w2.alloc (.cells #[.int .u16 (u1 : Int), .int .u64 (u2 : Int)] 25) = W3 at HB3 hd1 hd2 ⊢
  refine (CR _).mono ?_
  rintro e w4 ⟨rfl, hb4⟩
  have HB4 := Lib.hid hb4
  have he1 : (w4.alloc (.cells #[.int .u16 (u1 : Int), .int .u64 (u2 : Int)] 25)).cell? ⟨w4.heap.size, 0, none⟩ = some (.int .u16 (u1 : Int)) := by simp [go_sem]
  have he2 : (w4.alloc (.cells #[.int .u16 (u1 : Int), .int .u64 (u2 : Int)] 25)).cell? ⟨w4.heap.size, 1, none⟩ = some (.int .u64 (u2 : Int)) := by simp [go_sem]
  have HB5 := Lib.hid (below_new w4 (.cells #[.int .u16 (u1 : Int), .int .u64 (u2 : Int)] 25))
  clear hb2 hb4 CP CR
  have G4 : Below W3.heap.size W3 (w4.alloc (.cells #[.int .u16 (u1 : Int), .int .u64 (u2 : Int)] 25)) := HB4.out.trans (HB5.out.mono HB4.out.size)
  have G3 : Below w.heap.size w W3 := HB2.out.trans (HB3.out.mono HB2.out.size)
  have HE : Hid (Below w.heap.size w (w4.alloc (.cells #[.int .u16 (u1 : Int), .int .u64 (u2 : Int)] 25))) := G3.trans (G4.mono G3.size)
  have c5 : (w4.alloc (.cells #[.int .u16 (u1 : Int), .int .u64 (u2 : Int)] 25)).cell? ⟨w2.heap.size, 0, none⟩ = some (.int .u16 (u1 : Int)) := (G4.cell (World.block_lt_of_cell? W3 _ hd1)).trans hd1
  have c6 : (w4.alloc (.cells #[.int .u16 (u1 : Int), .int .u64 (u2 : Int)] 25)).cell? ⟨w2.heap.size, 1, none⟩ = some (.int .u64 (u2 : Int)) := (G4.cell (World.block_lt_of_cell? W3 _ hd2)).trans hd2
  clear G3 G4 hd1 hd2 HB2 HB3 HB4 HB5
  cases ok with
  | true =>
    have A7 := fun W h => P.text W (u1, u2) h HF
    rw [HT rfl] at A7
    clear HF HT
    go_wp2_with fail
    refine (A7 _ (HV.out.pow.below HE.out)).mono ?_
    rintro e w6 ⟨rfl, hb6⟩
    have HE6 : Hid (Below w.heap.size w w6) := HE.out.trans (hb6.mono HE.out.size)
    clear hb6
    go_wp2_with fail
    refine (works_any P _ (HV.out.pow.below HE6.out)).mono ?_
    rintro e w7 ⟨rfl, hb7⟩
    have HE7 : Hid (Below w.heap.size w w7) := HE6.out.trans (hb7.mono HE6.out.size)
    clear hb7
    go_wp2
    go_ret
    exact ⟨rfl, HE7.out⟩
  | false =>
    clear HF HT
    go_wp2_with fail
    refine (works_any P _ (HV.out.pow.below HE.out)).mono ?_
    rintro e w7 ⟨rfl, hb7⟩
    have HE7 : Hid (Below w.heap.size w w7) := HE.out.trans (hb7.mono HE.out.size)
    clear hb7
    go_wp2
    go_ret
    exact ⟨rfl, HE7.out⟩
end Go.Proofs.YtoojlalpcmlanaaDoor.Dt
