/- The contract of the document's Parse of layer dot. For every text. -/
import Derived.Test.YtoojlalpcmlanaaDoorDNum
namespace Go.Proofs.YtoojlalpcmlanaaDoor.Dt
open Go.ChangeShapes Go.WideShapes Go.ChangeAt Go.RowKit
set_option linter.unusedVariables false

theorem below_new2 (w : World) (o1 o2 : Obj) : Below w.heap.size w ((w.alloc o1).alloc o2) := (below_new w o1).alloc (below_new w o1).size o2
theorem numB_less (l : List UInt8) : (numB l).1 < 1000000000000000 := by
  unfold numB
  split
  · simp
  · rename_i h
    split
    · rename_i ha
      have h1 := valB_less l ha
      have h2 : 10 ^ l.length ≤ 1000000000000000 := pow15 (by
        unfold badB at h
        have : ¬ (l.length < 1 ∨ 15 < l.length ∨ (1 < l.length ∧ l[0]? = some 48)) := fun h' => h (decide_eq_true h')
        omega)
      show valB l < _
      omega
    · simp
/-- what the document's Parse says. -/
def readB (x y : Nat × Bool) : Dot × Bool := if x.2 = true ∧ y.2 = true ∧ x.1 ≤ 65535 ∧ mayD (x.1, y.1) = true then ((x.1, y.1), true) else ((0, 0), false)
def parseB (l : List UInt8) : Dot × Bool :=
  match l.findIdx? (fun c => c == 46) with
  | none => ((0, 0), false)
  | some k => readB (numB (l.take k)) (numB (l.drop (k + 1)))
theorem parseB_none {l : List UInt8} (h : ∀ c ∈ l, c ≠ 46) : parseB l = ((0, 0), false) := by
  have : l.findIdx? (fun c => c == 46) = none := by
    rw [List.findIdx?_eq_none_iff]
    intro c hc
    simpa using h c hc
  unfold parseB
  rw [this]
theorem parseB_at {l : List UInt8} {k : Nat} (h : ∀ c ∈ l.take k, c ≠ 46) (hk : l[k]? = some 46) : parseB l = readB (numB (l.take k)) (numB (l.drop (k + 1))) := by
  have : l.findIdx? (fun c => c == 46) = some k := by
    obtain ⟨hlt, he⟩ := List.getElem?_eq_some_iff.1 hk
    rw [List.findIdx?_eq_some_iff_getElem]
    refine ⟨hlt, by rw [he]; rfl, fun j hj => ?_⟩
    have hm : l[j] ∈ l.take k := by
      rw [List.mem_take_iff_getElem]
      exact ⟨j, by omega, rfl⟩
    have := h _ hm
    simpa using this
  unfold parseB
  rw [this]
theorem toList_first (s : ByteArray) (k : Nat) : (s.extract 0 k).data.toList = s.data.toList.take k := by
  simp
theorem toList_rest (s : ByteArray) (k : Nat) : (s.extract k s.size).data.toList = s.data.toList.drop k := by
  simp
  exact List.take_of_length_le (by simp)

set_option maxHeartbeats 4000000 in
theorem rparse_any (s : ByteArray) (w : World) (hs : s.size ≤ maxLen) :
    Calls Tryd.prog 28 #[.string s] w fun e w' => e = .returned (.tuple #[.agg #[.int .u16 ((parseB s.data.toList).1.1 : Int), .int .u64 ((parseB s.data.toList).1.2 : Int)], .bool (parseB s.data.toList).2]) ∧ Below w.heap.size w w' := by
  unfold maxLen at hs
  go_enter Tryd.func28, Tryd.ntmps28
  go_wp2_with fail
  go_loop [4] (fun i => ∃ k : Nat, k ≤ s.size ∧ i = .int .i64 k ∧ ∀ c ∈ s.data.toList.take k, c ≠ 46) (fun i => s.size - (intOf i).toNat)
  case atStart => exact ⟨0, Nat.zero_le _, rfl, by simp⟩
  case round =>
    obtain ⟨k, hk, rfl, hn⟩ := hrel
    by_cases hlt : k < s.size
    · have hgk : s.data.toList[k]? = some s[k] := by
        have h' : k < s.data.toList.length := by simpa using hlt
        rw [List.getElem?_eq_getElem h']; rfl
      by_cases e1 : s[k] = 46
      · have t1 : ((s[k].toNat : Int) != 46) = false := by rw [e1]; rfl
        have HP := Lib.hid (parseB_at hn (by rw [hgk, e1]))
        rw [← toList_first, ← toList_rest] at HP
        have CN1 := fun W => rnumber_any (s.extract 0 k) W (by unfold maxLen; rw [ByteArray.size_extract]; omega)
        have CN2 := fun W => rnumber_any (s.extract (k + 1) s.size) W (by unfold maxLen; rw [ByteArray.size_extract]; omega)
        have hx := numB_less (s.extract 0 k).data.toList
        have hy := numB_less (s.extract (k + 1) s.size).data.toList
        generalize numB (s.extract 0 k).data.toList = nx at HP CN1 hx
        generalize numB (s.extract (k + 1) s.size).data.toList = ny at HP CN2 hy
        obtain ⟨x, ox⟩ := nx
        obtain ⟨y, oy⟩ := ny
        simp only at HP CN1 CN2 hx hy
        clear hgk hn e1
        have hmod : x ≤ 65535 → (x : Int) % 65536 = (x : Int) := fun h => by omega
        cases ox with
        | false =>
          have HR : Hid (parseB s.data.toList = ((0, 0), false)) := Lib.hid (by rw [HP.out]; rfl)
          clear HP hmod
          go_wp2_with fail
          refine (CN1 _).mono ?_
          rintro e w1 ⟨rfl, rfl⟩
          go_wp2_with fail
          refine (CN2 _).mono ?_
          rintro e w2 ⟨rfl, rfl⟩
          go_wp2
          refine bodyPost_ret (v := .tuple #[.agg #[.int .u16 0, .int .u64 0], .bool false]) ?_ rfl ?_
          · simp [results, Tryd.f28, go_sem]
          · rw [HR.out]; exact ⟨rfl, below_new2 _ _ _⟩
        | true =>
          cases oy with
          | false =>
            have HR : Hid (parseB s.data.toList = ((0, 0), false)) := Lib.hid (by rw [HP.out]; rfl)
            clear HP hmod
            go_wp2_with fail
            refine (CN1 _).mono ?_
            rintro e w1 ⟨rfl, rfl⟩
            go_wp2_with fail
            refine (CN2 _).mono ?_
            rintro e w2 ⟨rfl, rfl⟩
            go_wp2
            refine bodyPost_ret (v := .tuple #[.agg #[.int .u16 0, .int .u64 0], .bool false]) ?_ rfl ?_
            · simp [results, Tryd.f28, go_sem]
            · rw [HR.out]; exact ⟨rfl, below_new2 _ _ _⟩
          | true =>
            by_cases e3 : x ≤ 65535
            · have t3 : decide (65535 < (x : Int)) = false := decide_eq_false (by omega)
              have t4 := hmod e3
              have CG := fun W => rgood_any W x y
              cases hm : mayD (x, y) with
              | false =>
                have HR : Hid (parseB s.data.toList = ((0, 0), false)) := Lib.hid (by rw [HP.out]; unfold readB; rw [if_neg (by simp [hm])])
                rw [hm] at CG
                clear HP hmod hm
                go_wp2_with fail
                refine (CN1 _).mono ?_
                rintro e w1 ⟨rfl, rfl⟩
                go_wp2_with fail
                refine (CN2 _).mono ?_
                rintro e w2 ⟨rfl, rfl⟩
                go_wp2_with fail
                refine (CG _).mono ?_
                rintro e w3 ⟨rfl, rfl⟩
                go_wp2
                refine bodyPost_ret (v := .tuple #[.agg #[.int .u16 0, .int .u64 0], .bool false]) ?_ rfl ?_
                · simp [results, Tryd.f28, go_sem]
                · rw [HR.out]; exact ⟨rfl, below_new3 _ _ _ _⟩
              | true =>
                have HR : Hid (parseB s.data.toList = ((x, y), true)) := Lib.hid (by rw [HP.out]; unfold readB; rw [if_pos (by simp [hm, e3])])
                rw [hm] at CG
                clear HP hmod hm
                go_wp2_with fail
                refine (CN1 _).mono ?_
                rintro e w1 ⟨rfl, rfl⟩
                go_wp2_with fail
                refine (CN2 _).mono ?_
                rintro e w2 ⟨rfl, rfl⟩
                go_wp2_with fail
                refine (CG _).mono ?_
                rintro e w3 ⟨rfl, rfl⟩
                go_wp2
                refine bodyPost_ret (v := .tuple #[.agg #[.int .u16 (x : Int), .int .u64 (y : Int)], .bool true]) ?_ rfl ?_
                · simp [results, Tryd.f28, go_sem]
                · rw [HR.out]; exact ⟨rfl, below_new3 _ _ _ _⟩
            · have t3 : decide (65535 < (x : Int)) = true := decide_eq_true (by omega)
              have HR : Hid (parseB s.data.toList = ((0, 0), false)) := Lib.hid (by rw [HP.out]; unfold readB; rw [if_neg (by simp [e3])])
              clear HP hmod
              go_wp2_with fail
              refine (CN1 _).mono ?_
              rintro e w1 ⟨rfl, rfl⟩
              go_wp2_with fail
              refine (CN2 _).mono ?_
              rintro e w2 ⟨rfl, rfl⟩
              go_wp2
              refine bodyPost_ret (v := .tuple #[.agg #[.int .u16 0, .int .u64 0], .bool false]) ?_ rfl ?_
              · simp [results, Tryd.f28, go_sem]
              · rw [HR.out]; exact ⟨rfl, below_new2 _ _ _⟩
      · have t1 : ((s[k].toNat : Int) != 46) = true := by
          rw [bne_iff_ne]
          intro h2
          exact e1 (UInt8.toNat_inj.1 (by show s[k].toNat = 46; omega))
        have HN : Hid (∀ c ∈ s.data.toList.take (k + 1), c ≠ 46) := Lib.hid (by
          rw [take_snoc s k hlt]
          intro c hc
          rcases List.mem_append.1 hc with h | h
          · exact hn c h
          · rw [List.mem_singleton.1 h]; exact e1)
        clear hn e1 hgk
        go_wp2
        go_round
        case rel => exact ⟨k + 1, by omega, by go_num, HN.out⟩
        case measure => simp [intOf]; omega
    · obtain rfl : k = s.size := by omega
      have e : s.data.toList.take s.size = s.data.toList := List.take_of_length_le (by simp)
      rw [e] at hn
      have HP := Lib.hid (parseB_none hn)
      clear hn e
      go_wp2
      refine bodyPost_ret (v := .tuple #[.agg #[.int .u16 0, .int .u64 0], .bool false]) ?_ rfl ?_
      · simp [results, Tryd.f28, go_sem]
      · rw [HP.out]; exact ⟨rfl, below_new _ _⟩
end Go.Proofs.YtoojlalpcmlanaaDoor.Dt
