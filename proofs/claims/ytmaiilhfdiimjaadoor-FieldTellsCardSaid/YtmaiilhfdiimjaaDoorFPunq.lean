/- The contracts of field's inside and Unquote. For every text of at most 2^60 bytes. -/
import Derived.Test.YtmaiilhfdiimjaaDoorFPquote
namespace Go.Proofs.YtmaiilhfdiimjaaDoor.Fd
open Go.ChangeShapes Go.WideShapes Go.ChangeAt Go.RowKit
set_option linter.unusedVariables false

theorem own_from {w : World} {B n : Nat} {v : Value} {xs : List Value} (h : w.ownsRow B 5 1 v n xs) : ∀ j, v.ownBlock = some j → B ≤ j := by
  intro j hj
  rcases h.2 with ⟨rfl, _⟩ | ⟨g, cap, _, rfl, hg, _⟩
  · cases hj
  · have e : g = j := by simpa [Value.ownBlock] using hj
    omega
/-- what holds at each round's head: so many bytes gone through, so many of them text, and is the next one to be taken as it is? -/
def InsRel (w : World) (s : ByteArray) (v e i : Value) (wr : World) : Prop :=
  ∃ (k : Nat) (o : List UInt8) (b : Bool), k ≤ min s.size 121 ∧ i = .int .i64 (k : Int) ∧ e = .bool b ∧ o.length ≤ k ∧ k ≤ 2 * o.length + b.toNat ∧
    insB false s.data.toList = pre o (insB b (s.data.toList.drop k)) ∧ wr.ownsRow w.heap.size 5 1 v o.length (vals o) ∧ Below w.heap.size w wr
theorem ins_start (w : World) (s : ByteArray) : InsRel w s (.slice none 0 0) (.bool false) (.int .i64 0) w :=
  ⟨0, [], false, by omega, rfl, rfl, by simp, by simp, by rw [pre_nil]; rfl, World.ownsRow_nil _ _ _ _, Below.refl _ _⟩
theorem ins_push {w wr w2 : World} {s : ByteArray} {v v1 : Value} {k : Nat} {o : List UInt8} {c : UInt8} {x : Int} (hk : k + 1 ≤ min s.size 121) (h1 : o.length ≤ k) (h2 : k ≤ 2 * o.length + 1)
    (hu : insB false s.data.toList = pre (o ++ [c]) (insB false (s.data.toList.drop (k + 1)))) (ho : wr.ownsRow w.heap.size 5 1 v o.length (vals o)) (hb : Below w.heap.size w wr)
    (hown : w2.ownsRow w.heap.size 5 1 v1 (o.length + 1) (vals o ++ vals [c])) (hgr : (wr.alloc (.cells #[.int .u8 x] 5)).grownBy w2 v.ownBlock) : InsRel w s v1 (.bool false) (.int .i64 ((k : Int) + 1)) w2 := by
  refine ⟨k + 1, o ++ [c], false, hk, by go_num, rfl, by simp; omega, by simp; omega, hu, ?_, ?_⟩
  · rw [vals_append, List.length_append]; exact hown
  · exact (hb.alloc hb.size _).grown hgr (Nat.le_trans hb.size (by simp)) (own_from ho)
theorem ins_skip {w wr : World} {s : ByteArray} {v : Value} {k : Nat} {o : List UInt8} (hk : k + 1 ≤ min s.size 121) (h1 : o.length ≤ k) (h2 : k ≤ 2 * o.length)
    (hu : insB false s.data.toList = pre o (insB true (s.data.toList.drop (k + 1)))) (ho : wr.ownsRow w.heap.size 5 1 v o.length (vals o)) (hb : Below w.heap.size w wr) : InsRel w s v (.bool true) (.int .i64 ((k : Int) + 1)) wr :=
  ⟨k + 1, o, true, hk, by go_num, rfl, by omega, by simp; omega, hu, ho, hb⟩
theorem ins_over {s : ByteArray} {k : Nat} {o : List UInt8} {b : Bool} (hk : k = min s.size 121) (h2 : k ≤ 2 * o.length + b.toNat) (hu : insB false s.data.toList = pre o (insB b (s.data.toList.drop k))) : keepT none = keepT (insB false s.data.toList) := by
  rw [hu]
  by_cases h : s.size ≤ 121
  · rw [List.drop_of_length_le (by simp; omega), ins_end]
    rfl
  · symm
    cases b with
    | false => exact keep_long (pre_long (by simp at h2; omega))
    | true => exact keep_long (pre_long2 (by simp at h2; omega))

/-- an answer of inside. -/
def InsPost (w : World) (s : ByteArray) (e : Ending) (w' : World) : Prop :=
  ∃ x : Option (List UInt8 × List UInt8), e = .returned (unqV x) ∧ keepT x = keepT (insB false s.data.toList) ∧ (tx x).length ≤ 121 ∧ Below w.heap.size w w'
theorem ins_none {w : World} {s : ByteArray} {v : Value} {wr : World} (hv : unqV none = v) (hu : keepT none = keepT (insB false s.data.toList)) (hb : Below w.heap.size w wr) : InsPost w s (.returned v) wr :=
  ⟨none, by rw [hv], hu, by simp [tx], hb⟩
theorem ins_some {w : World} {s : ByteArray} {v : Value} {wr : World} {o r : List UInt8} (m : Nat) (hv : unqV (some (o, r)) = v) (hu : insB false s.data.toList = some (o, r)) (hl : o.length ≤ 121) (hb : Below w.heap.size w wr) : InsPost w s (.returned v) (wr.drewN m) :=
  ⟨some (o, r), by rw [hv], by rw [hu], hl, hb.trans (below_drewN _ _ m)⟩

set_option maxRecDepth 100000 in
set_option maxHeartbeats 8000000 in
theorem inside_any (s : ByteArray) (w : World) (hs : s.size ≤ 1152921504606846976) :
    Calls Tryd.prog 16 #[.string s] w (InsPost w s) := by
  obtain ⟨i0, hi0, hz0, hz1, hz2⟩ := info_parts byte_info
  have HR := Lib.hid (ins_start w s)
  go_enter Tryd.func16, Tryd.ntmps16
  go_wp2_with fail
  all_goals
    go_loopw [5, 6, 12] (fun v e i wr => InsRel w s v e i wr) (fun _ _ i _ => 121 - (intOf i).toNat)
    case atStart => exact HR.out
    case round =>
      clear HR
      obtain ⟨k, o, b, hk, rfl, rfl, h1, h2, hu, ho, hb⟩ := hrel
      have HU := Lib.hid hu
      have HO := Lib.hid ho
      have HB := Lib.hid hb
      clear hu ho hb
      by_cases hlt : k < min s.size 121
      · have hlt1 : k < s.size := by omega
        have hlt2 : k < 121 := by omega
        have CS := fun W => special_any s[k] W
        have h34 := eq34 s[k]
        have h92 := eq92 s[k]
        have hd := drop_at s k hlt1
        cases b with
        | true =>
          cases hsp : spc s[k] with
          | true =>
            have HU2 : Hid (insB false s.data.toList = pre (o ++ [s[k]]) (insB false (s.data.toList.drop (k + 1)))) := Lib.hid (by rw [HU.out, hd, ins_spc hsp, pre_pre])
            rw [hsp] at CS
            clear hd hsp HU h34 h92
            go_wp2_with (first
              | (go_at_call 17; refine (CS _).mono ?_; rintro e w' ⟨rfl, rfl⟩)
              | (at_builtin
                 refine wpList_append_own _ rfl (.tmp 39) (.tmp 41) 34 rfl w.heap.size 5 i0 (.int .u8 0) 1 1 Tryd.underlying34 hi0 hz0 hz1 hz2 rfl (by decide) u5 o.length (vals o) rfl (HO.out.alloc _) ⟨wr.heap.size, 0, none⟩ 1 1 (vals [s[k]]) rfl rfl (cell_byte wr s[k] _ rfl) (vals_one _) (by unfold maxLen; omega) (by omega) (Nat.le_trans HB.out.size (by simp)) ?_
                 intro v1 w2 hown1 hg2 hat1
                 have HR : Hid (InsRel w s v1 (.bool false) (.int .i64 ((k : Int) + 1)) w2) := Lib.hid (ins_push (by omega) h1 (by simp at h2; omega) HU2.out HO.out HB.out hown1 hg2)
                 clear hown1 hg2 hat1)
              | go_in)
            go_roundw
            case rel => exact HR.out
            case measure => simp [intOf]; omega
          | false =>
            have HU2 : Hid (keepT none = keepT (insB false s.data.toList)) := Lib.hid (by rw [HU.out, hd, ins_bad hsp]; rfl)
            rw [hsp] at CS
            clear hd hsp HU h34 h92
            go_wp2_with (first
              | (go_at_call 17; refine (CS _).mono ?_; rintro e w' ⟨rfl, rfl⟩)
              | go_in)
            go_ret3
            exact ins_none rfl HU2.out HB.out
        | false =>
          by_cases e1 : s[k] = 34
          · have HU2 : Hid (insB false s.data.toList = some (o, s.data.toList.drop (k + 1))) := Lib.hid (by rw [HU.out, hd, e1, ins_quote, pre_some, List.append_nil])
            rw [decide_eq_true e1] at h34
            have hcv : ∀ m, (convert 34 9 u5).run Tryd.prog (wr.drewN m) = .ok (.string (ba o)) (wr.drewN m) := fun m => conv (w := wr.drewN m) HO.out
            have hcv0 := hcv 0
            have HX := Lib.hid (rest_ext s (k + 1))
            have hw1 : IntKind.i64.wrap ((k : Int) + 1) = (k : Int) + 1 := IntWalk.i64_in _ (by omega)
            have hw2 : 0 ≤ (k : Int) + 1 := by omega
            have hw3 : ((k : Int) + 1).toNat = k + 1 := by omega
            have hw4 : (k : Int) + 1 ≤ (s.size : Int) := by omega
            have HV : Hid (unqV (some (o, s.data.toList.drop (k + 1))) = .tuple #[.string (ba o), .string (s.extract (k + 1) s.size), .bool true]) := Lib.hid (by rw [HX.out]; rfl)
            clear hd HU h92 e1
            go_wp2
            go_quiet (fail)
            go_wp2
            go_ret3
            exact ins_some _ HV.out HU2.out (by omega) HB.out
          · by_cases e2 : s[k] = 92
            · have HU2 : Hid (insB false s.data.toList = pre o (insB true (s.data.toList.drop (k + 1)))) := Lib.hid (by rw [HU.out, hd, e2, ins_escape])
              have HR : Hid (InsRel w s u5 (.bool true) (.int .i64 ((k : Int) + 1)) wr) := Lib.hid (ins_skip (by omega) h1 (by simpa using h2) HU2.out HO.out HB.out)
              rw [decide_eq_false e1] at h34
              rw [decide_eq_true e2] at h92
              clear hd HU e1 e2
              go_wp2
              go_roundw
              case rel => exact HR.out
              case measure => simp [intOf]; omega
            · have HU2 : Hid (insB false s.data.toList = pre (o ++ [s[k]]) (insB false (s.data.toList.drop (k + 1)))) := Lib.hid (by rw [HU.out, hd, ins_plain (spc_not (by rintro (h | h) <;> contradiction)), pre_pre])
              rw [decide_eq_false e1] at h34
              rw [decide_eq_false e2] at h92
              clear hd HU e1 e2
              go_wp2_with (first
                | (go_at_call 17; refine (CS _).mono ?_; rintro e w' ⟨rfl, rfl⟩)
                | (at_builtin
                   refine wpList_append_own _ rfl (.tmp 39) (.tmp 41) 34 rfl w.heap.size 5 i0 (.int .u8 0) 1 1 Tryd.underlying34 hi0 hz0 hz1 hz2 rfl (by decide) u5 o.length (vals o) rfl (HO.out.alloc _) ⟨wr.heap.size, 0, none⟩ 1 1 (vals [s[k]]) rfl rfl (cell_byte wr s[k] _ rfl) (vals_one _) (by unfold maxLen; omega) (by omega) (Nat.le_trans HB.out.size (by simp)) ?_
                   intro v1 w2 hown1 hg2 hat1
                   have HR : Hid (InsRel w s v1 (.bool false) (.int .i64 ((k : Int) + 1)) w2) := Lib.hid (ins_push (by omega) h1 (by simp at h2; omega) HU2.out HO.out HB.out hown1 hg2)
                   clear hown1 hg2 hat1)
                | go_in)
              go_roundw
              case rel => exact HR.out
              case measure => simp [intOf]; omega
      · obtain rfl : k = min s.size 121 := by omega
        have HU2 := Lib.hid (ins_over rfl h2 HU.out)
        clear HU
        go_wp2
        go_ret3
        exact ins_none rfl HU2.out HB.out

set_option maxHeartbeats 4000000 in
theorem punquote_any (s : ByteArray) (w : World) (hs : s.size ≤ 1152921504606846976) :
    Calls Tryd.prog 14 #[.string s] w fun e w' => e = .returned (unqV (unqB s.data.toList)) ∧ Below w.heap.size w w' := by
  by_cases h0 : s.size = 0
  · have e := is_empty h0
    subst e
    go_enter Tryd.func14, Tryd.ntmps14
    go_wp2
    go_ret3
    exact ⟨ret_unq rfl, Below.refl _ _⟩
  have hpos : 0 < s.size := by omega
  have hz : ((s.size : Int) == 0) = false := by rw [beq_eq_false_iff_ne]; omega
  have hc := list_cons s hpos
  have hq := ne34 s[0]
  by_cases e0 : s[0] = 34
  · rw [decide_eq_true e0] at hq
    have HU : Hid (unqB s.data.toList = keepT (insB false (s.data.toList.drop 1))) := Lib.hid (by
      have h1 := unq_one (s.data.toList.drop 1)
      rw [← h1, ← e0, ← hc])
    have CI := fun W => inside_any (s.extract 1 s.size) W (by rw [ByteArray.size_extract]; omega)
    have HL := Lib.hid (toList_rest s 1)
    clear hc e0 h0
    go_enter Tryd.func14, Tryd.ntmps14
    go_wp2_with fail
    refine (CI _).mono ?_
    rintro e w1 ⟨x, rfl, hk, hx, hb⟩
    rw [HL.out, ← HU.out] at hk
    have HB := Lib.hid hb
    clear hb CI HU HL
    cases x with
    | none =>
      have HV : Hid (unqV (unqB s.data.toList) = .tuple #[.string ⟨#[]⟩, .string ⟨#[]⟩, .bool false]) := Lib.hid (by rw [← hk]; rfl)
      clear hk hx
      go_wp2
      go_ret3
      exact ⟨ret_unq HV.out, HB.out⟩
    | some p =>
      obtain ⟨t, r⟩ := p
      have CT := fun W => ptext_any (ba t) W (by rw [ba_size]; simp only [tx] at hx; omega)
      rw [list_ba] at CT
      cases ht : textB t with
      | true =>
        rw [keep_some ht] at hk
        rw [ht] at CT
        have HV : Hid (unqV (unqB s.data.toList) = .tuple #[.string (ba t), .string (ba r), .bool true]) := Lib.hid (by rw [← hk]; rfl)
        clear hk hx ht
        go_wp2_with fail
        refine (CT _).mono ?_
        rintro e w' ⟨rfl, rfl⟩
        go_wp2
        go_ret3
        exact ⟨ret_unq HV.out, HB.out⟩
      | false =>
        rw [keep_not ht] at hk
        rw [ht] at CT
        have HV : Hid (unqV (unqB s.data.toList) = .tuple #[.string ⟨#[]⟩, .string ⟨#[]⟩, .bool false]) := Lib.hid (by rw [← hk]; rfl)
        clear hk hx ht
        go_wp2_with fail
        refine (CT _).mono ?_
        rintro e w' ⟨rfl, rfl⟩
        go_wp2
        go_ret3
        exact ⟨ret_unq HV.out, HB.out⟩
  · rw [decide_eq_false e0] at hq
    have HU : Hid (unqV (unqB s.data.toList) = .tuple #[.string ⟨#[]⟩, .string ⟨#[]⟩, .bool false]) := Lib.hid (by rw [hc, unq_other e0]; rfl)
    clear hc e0 h0
    go_enter Tryd.func14, Tryd.ntmps14
    go_wp2
    go_ret3
    exact ⟨ret_unq HU.out, Below.refl _ _⟩
end Go.Proofs.YtmaiilhfdiimjaaDoor.Fd
