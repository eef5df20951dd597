/- The contract of the program's Parse. For every text of at most 2^48 bytes, where strconv's variables lie as they are laid. -/
import Derived.Test.YtoojlalpcmlanaaDoorPRead
namespace Go.Proofs.YtoojlalpcmlanaaDoor.Dt
open Go.ChangeShapes Go.WideShapes Go.ChangeAt Go.RowKit
set_option linter.unusedVariables false

theorem ret_parse {x : Dot × Bool} {a : Int} {b : Int} {c : Bool} (h1 : a = (x.1.1 : Int)) (h2 : b = (x.1.2 : Int)) (h3 : c = x.2) : Ending.returned (.tuple #[.agg #[.int .u16 a, .int .u64 b], .bool c]) = .returned (.tuple #[.agg #[.int .u16 (x.1.1 : Int), .int .u64 (x.1.2 : Int)], .bool x.2]) := by rw [h1, h2, h3]
theorem cut_sizes (s a b : ByteArray) (h : a.data.toList = (cutL s.data.toList).1 ∧ b.data.toList = (cutL s.data.toList).2) : a.size ≤ s.size ∧ b.size ≤ s.size := by
  have ha : a.size = a.data.toList.length := by rw [Array.length_toList]; rfl
  have hb : b.size = b.data.toList.length := by rw [Array.length_toList]; rfl
  have hs : s.size = s.data.toList.length := by rw [Array.length_toList]; rfl
  rw [ha, hb, hs, h.1, h.2]
  unfold cutL
  split
  · simp
  · simp only [List.length_take, List.length_drop]; omega
set_option maxHeartbeats 8000000 in
theorem pparse_any (s : ByteArray) (w : World) (hs : s.size ≤ 281474976710656) (hV : Vars w) :
    Calls Tryd.prog 27 #[.string s] w fun e w' => e = .returned (.tuple #[.agg #[.int .u16 ((parseB s.data.toList).1.1 : Int), .int .u64 ((parseB s.data.toList).1.2 : Int)], .bool (parseB s.data.toList).2]) ∧ Below w.heap.size w w' := by
  have CC := fun W => pcut_any s (by unfold maxLen; omega) W
  have HN := Lib.hid (new_cells w)
  have HB := Lib.hid (below_new w (.cells #[.int .u16 0, .int .u64 0] 25))
  have HV := Lib.hid (hV.below HB.out)
  have HS := Lib.hid hs
  clear hV hs
  go_enter Tryd.func27, Tryd.ntmps27
  go_wp2_with fail
  generalize w.alloc (.cells #[.int .u16 0, .int .u64 0] 25) = W0 at HN HB HV ⊢
  refine (CC _).mono ?_
  rintro e w1 ⟨a, b, f, rfl, hab, hb1⟩
  have HAB := Lib.hid hab
  have HB1 := Lib.hid hb1
  have CD := num16_any a (Nat.le_trans (cut_sizes s a b hab).1 HS.out) w1 (HV.out.below hb1)
  clear hab hb1 CC
  go_wp2_with fail
  refine CD.mono ?_
  rintro e w2 ⟨hd, hb2⟩
  have HB2 : Hid (Below W0.heap.size W0 w2) := HB1.out.trans (hb2.mono HB1.out.size)
  have CN := num64_any b (Nat.le_trans (cut_sizes s a b HAB.out).2 HS.out) w2 (HV.out.below HB2.out)
  clear hb2 HB1 CD
  rcases hd with ⟨u, rfl, hu⟩ | ⟨v, M, rfl, hu⟩
  · have HU := Lib.hid hu
    clear hu
    go_wp2_with fail
    refine CN.mono ?_
    rintro e w3 ⟨hd, hb3⟩
    have HB3 : Hid (Below W0.heap.size W0 w3) := HB2.out.trans (hb3.mono HB2.out.size)
    clear hb3 HB2 CN
    rcases hd with ⟨n, rfl, hn⟩ | ⟨v, M, rfl, hn⟩
    · have hu16 : u ≤ 65535 := Lib.parseUintB_le HU.out
      have hn64 : n ≤ 18446744073709551615 := Lib.parseUintB_le hn
      have hm1 : IntKind.u16.wrap (u : Int) = (u : Int) := by rw [IntKind.wrap_u16]; omega
      have hm2 : (u : Int) % 65536 = (u : Int) := by omega
      have CT := fun W hW => ptext_any u n (by omega) (by omega) W hW
      have CI := fun W => pif_any W (u, n)
      have HX := Lib.hid (one_dot w3 (u, n))
      have HB4 : Hid (Below W0.heap.size W0 (w3.alloc (.cells #[.int .u16 (u : Int), .int .u64 (n : Int)] 25))) := HB3.out.trans ((below_new _ _).mono HB3.out.size)
      obtain ⟨x1, x2⟩ := HX.out _ (Below.refl _ _)
      have HS1 : Hid (textA (u, n) = s → parseB s.data.toList = keepD (u, n)) := fun e => parse_same (by omega) (by rw [← e, textA_list])
      have HS2 : Hid (textA (u, n) ≠ s → parseB s.data.toList = ((0, 0), false)) := fun e => parse_other (x := u) (y := n) (by rw [← HAB.out.1]; exact HU.out) (by rw [← HAB.out.2]; exact hn) (fun h => e (by rw [textA_eq, h]))
      clear hu16 hn64 HU hn HAB HB3 HS
      go_wp2_with fail
      generalize w3.alloc (.cells #[.int .u16 (u : Int), .int .u64 (n : Int)] 25) = W4 at HX HB4 x1 x2 ⊢
      refine (CT _ (HV.out.pow.below HB4.out)).mono ?_
      rintro e w5 ⟨rfl, hb5⟩
      have HB5 : Hid (Below W0.heap.size W0 w5) := HB4.out.trans (hb5.mono HB4.out.size)
      have x3 := HX.out _ hb5
      obtain ⟨x3, x4⟩ := x3
      clear hb5 HB4 CT x1 x2
      by_cases ht : textA (u, n) = s
      · have HR1 := Lib.hid (HS1.out ht)
        rw [ht]
        clear HS1 HS2 ht
        go_wp2_with fail
        refine (CI _).mono ?_
        rintro e w6 ⟨rfl, hb6⟩
        have HB6 : Hid (Below W0.heap.size W0 w6) := HB5.out.trans (hb6.mono HB5.out.size)
        obtain ⟨⟨y1, y2⟩, z1, z2⟩ := HN.out _ HB6.out
        have HE : Hid (Below w.heap.size w w6) := HB.out.trans (HB6.out.mono HB.out.size)
        clear hb6 HB5 CI x3 x4
        generalize keepD (u, n) = k at HR1 ⊢
        have HR : Hid (Ending.returned (.tuple #[.agg #[.int .u16 (k.1.1 : Int), .int .u64 (k.1.2 : Int)], .bool k.2]) = .returned (.tuple #[.agg #[.int .u16 ((parseB s.data.toList).1.1 : Int), .int .u64 ((parseB s.data.toList).1.2 : Int)], .bool (parseB s.data.toList).2])) := by rw [HR1.out]; exact rfl
        clear HR1
        go_wp2
        refine bodyPost_ret (v := .tuple #[.agg #[.int .u16 (k.1.1 : Int), .int .u64 (k.1.2 : Int)], .bool k.2]) ?_ rfl ?_
        · simp [results, Tryd.f27, go_sem, y1, y2]
        · exact ⟨HR.out, (HE.out.setCell (by simp) _).setCell (by simp) _⟩
      · have HR1 := Lib.hid (HS2.out ht)
        have hl : (textA (u, n)).toList ≠ s.toList := by
          rw [Lib.toList_data, Lib.toList_data]
          intro e
          exact ht (ByteArray.ext (Array.toList_inj.1 e))
        have hne : ((textA (u, n)).toList != s.toList) = true := by rw [bne_iff_ne]; exact hl
        have hne2 : ((textA (u, n)).toList == s.toList) = false := by rw [beq_eq_false_iff_ne]; exact hl
        clear hl ht
        obtain ⟨⟨y1, y2⟩, z1, z2⟩ := HN.out _ HB5.out
        have HE : Hid (Below w.heap.size w w5) := HB.out.trans (HB5.out.mono HB.out.size)
        have HR : Hid (Ending.returned (.tuple #[.agg #[.int .u16 0, .int .u64 0], .bool false]) = .returned (.tuple #[.agg #[.int .u16 ((parseB s.data.toList).1.1 : Int), .int .u64 ((parseB s.data.toList).1.2 : Int)], .bool (parseB s.data.toList).2])) := by rw [HR1.out]; exact rfl
        clear HR1 HS1 HS2 CI
        go_wp2
        refine bodyPost_ret (v := .tuple #[.agg #[.int .u16 0, .int .u64 0], .bool false]) ?_ rfl ?_
        · simp [results, Tryd.f27, go_sem, y1, y2]
        · exact ⟨HR.out, (HE.out.setCell (by simp) _).setCell (by simp) _⟩
    · have HR : Hid (Ending.returned (.tuple #[.agg #[.int .u16 0, .int .u64 0], .bool false]) = .returned (.tuple #[.agg #[.int .u16 ((parseB s.data.toList).1.1 : Int), .int .u64 ((parseB s.data.toList).1.2 : Int)], .bool (parseB s.data.toList).2])) := by rw [parse_err (.inr (by rw [← HAB.out.2]; exact hn))]; exact rfl
      obtain ⟨⟨y1, y2⟩, z1, z2⟩ := HN.out _ HB3.out
      have HE : Hid (Below w.heap.size w w3) := HB.out.trans (HB3.out.mono HB.out.size)
      clear hn HAB HU HN HB3
      go_wp2
      refine bodyPost_ret (v := .tuple #[.agg #[.int .u16 0, .int .u64 0], .bool false]) ?_ rfl ?_
      · simp [results, Tryd.f27, go_sem, y1, y2]
      · exact ⟨HR.out, (HE.out.setCell (by simp) _).setCell (by simp) _⟩
  · have HR : Hid (Ending.returned (.tuple #[.agg #[.int .u16 0, .int .u64 0], .bool false]) = .returned (.tuple #[.agg #[.int .u16 ((parseB s.data.toList).1.1 : Int), .int .u64 ((parseB s.data.toList).1.2 : Int)], .bool (parseB s.data.toList).2])) := by rw [parse_err (.inl (by rw [← HAB.out.1]; exact hu))]; exact rfl
    clear hu HAB
    go_wp2_with fail
    refine CN.mono ?_
    rintro e w3 ⟨hd, hb3⟩
    have HB3 : Hid (Below W0.heap.size W0 w3) := HB2.out.trans (hb3.mono HB2.out.size)
    obtain ⟨⟨y1, y2⟩, z1, z2⟩ := HN.out _ HB3.out
    have HE : Hid (Below w.heap.size w w3) := HB.out.trans (HB3.out.mono HB.out.size)
    clear hb3 HB2 CN HN HB3
    rcases hd with ⟨n, rfl, hn⟩ | ⟨v, M, rfl, hn⟩
    · clear hn
      go_wp2
      refine bodyPost_ret (v := .tuple #[.agg #[.int .u16 0, .int .u64 0], .bool false]) ?_ rfl ?_
      · simp [results, Tryd.f27, go_sem, y1, y2]
      · exact ⟨HR.out, (HE.out.setCell (by simp) _).setCell (by simp) _⟩
    · clear hn
      go_wp2
      refine bodyPost_ret (v := .tuple #[.agg #[.int .u16 0, .int .u64 0], .bool false]) ?_ rfl ?_
      · simp [results, Tryd.f27, go_sem, y1, y2]
      · exact ⟨HR.out, (HE.out.setCell (by simp) _).setCell (by simp) _⟩
end Go.Proofs.YtoojlalpcmlanaaDoor.Dt
