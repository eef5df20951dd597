/- The contract of the document's Dots of layer event. For every list of at most 1024 events with at most 1024 kills each. -/
import Derived.Test.YtbaiiidkffafmaaESort
namespace Go.Proofs.Ytbaiiidkffafmaa.Ev
open Go.ChangeShapes Go.WideShapes Go.ChangeAt Go.RowKit
set_option linter.unusedVariables false

/-- a list of dots comes out. -/
def DPost (w : World) (l : List Dt.Dot) (e : Ending) (w' : World) : Prop := ∃ A n c, e = .returned (.slice A n c) ∧ DotsAt w' w'.heap.size A l n c ∧ Below w.heap.size w w'
theorem dpost_of {w w' : World} {m : List Dt.Dot} {e : Ending} (h : Dt.DotPost w m e w') (hf : Dt.Fit m) (hw : m.length ≤ 8796093022208) : DPost w m e w' := by
  obtain ⟨A, n, c, rfl, h1, h2, h3, h4, h5, _, h7⟩ := Dt.post_dots h hf
  exact ⟨A, n, c, rfl, ⟨h1, h2, h3, h4, by rw [← h1]; exact hw, h5⟩, h7⟩
theorem rputd_any (w : World) (A0 : Option Addr) (l : List Dt.Dot) (n c0 : Nat) (d : Dt.Dot) (h : DotsAt w w.heap.size A0 l n c0) (hd : d.1 < 65536 ∧ d.2 < 18446744073709551616) (h42 : n ≤ 4398046511104) :
    Calls Try.prog 42 #[.slice A0 n c0, .agg #[.int .u16 (d.1 : Int), .int .u64 (d.2 : Int)]] w (DPost w (Dt.putD l d)) := by
  refine (Dt.rput_any w A0 l n c0 d h.len h.dots h42).mono ?_
  intro e w' hp
  have h1 := Dt.put_length l d
  have h2 := h.len
  exact dpost_of hp (Dt.fit_put h.dots.1 hd) (by omega)
theorem kills_long (m : List Dt.Dot) (x : Evt) (j : Nat) : (killsTo m x j).length ≤ m.length + 1 + j := by
  induction j with
  | zero =>
    have := Dt.put_length m x.dot
    show (Dt.putD m x.dot).length ≤ _
    omega
  | succ j ih =>
    rcases Nat.lt_or_ge j x.kills.length with h | h
    · rw [kills_next (List.getElem?_eq_getElem h)]
      have := Dt.put_length (killsTo m x j) x.kills[j]
      omega
    · have e : killsTo m x (j + 1) = killsTo m x j := by
        unfold killsTo
        rw [List.take_of_length_le (by omega), List.take_of_length_le h]
      rw [e]; omega
theorem dots_long {l : List Evt} (hk : ∀ x ∈ l, x.kills.length ≤ 1024) (k : Nat) : (dotsTo l k).length ≤ k * 1025 := by
  induction k with
  | zero => simp [dotsTo]
  | succ k ih =>
    rcases Nat.lt_or_ge k l.length with h | h
    · rw [dots_next (List.getElem?_eq_getElem h), ← kills_all rfl]
      have h1 := kills_long (dotsTo l k) l[k] l[k].kills.length
      have h2 := hk _ (List.getElem_mem h)
      omega
    · have e : dotsTo l (k + 1) = dotsTo l k := by
        unfold dotsTo
        rw [List.take_of_length_le (by omega), List.take_of_length_le h]
      have h3 : (dotsTo l (k + 1)).length = (dotsTo l k).length := congrArg List.length e
      omega

set_option maxHeartbeats 8000000 in
theorem rdots_any (w : World) (A0 : Option Addr) (l : List Evt) (n c0 : Nat) (hl : EventsAt w w.heap.size A0 l n c0) (hn : n ≤ 1024) (hk : ∀ x ∈ l, x.kills.length ≤ 1024) :
    Calls Try.prog 21 #[.slice A0 n c0] w (DPost w (dotsE l)) := by
  have HL := Lib.hid hl
  have HKL := Lib.hid (fun k => dots_long hk k)
  have HKS := Lib.hid hk
  clear hl hk
  go_enter Try.func21, Try.ntmps21
  go_wp2_with fail
  go_loopw [3, 4] (fun v i wr => ∃ (k m : Nat) (A : Option Addr) (c : Nat), k ≤ n ∧ i = .int .i64 (k : Int) ∧ v = .slice A m c ∧ DotsAt wr wr.heap.size A (dotsTo l k) m c ∧ Below w.heap.size w wr) (fun _ i _ => n - (intOf i).toNat)
  case atStart => exact ⟨0, 0, none, 0, Nat.zero_le _, rfl, rfl, DotsAt.none_ _ _, Below.refl _ _⟩
  case round =>
    obtain ⟨k, m, A, c, hk, rfl, rfl, ho, hw⟩ := hrel
    have HO := Lib.hid ho
    have HW := Lib.hid hw
    clear ho hw
    by_cases hlt : k < n
    · obtain ⟨ad, q, y, rfl, hB, hly, hq, cq⟩ := HL.out.at_ hlt
      have HQ : Hid (∀ V, Below w.heap.size w V → CellsAt V (ad.add (k * 7)) q ∧ DotsAt V V.heap.size q.adr y.kills q.len q.cap) := Lib.hid (fun V hV => ⟨cq.kept hV, (hq.up hV).kills⟩)
      have hyd := is_dot hq
      have hfd := hq.fits.dot
      rw [hyd] at hfd
      have HY := Lib.hid hyd
      have hql : q.len ≤ 1024 := by rw [← hq.kills.len]; exact HKS.out _ (List.mem_of_getElem? hly)
      have HN := Lib.hid (dots_next hly)
      have HKN := Lib.hid (kills_all (m := dotsTo l k) hq.kills.len)
      have hmk := HKL.out k
      rw [HO.out.len] at hmk
      have CP := rputd_any wr A (dotsTo l k) m c (q.dev, q.num) HO.out hfd (by omega)
      obtain ⟨e0, e1, e2, e3, e4, e5, e6⟩ := (HQ.out wr HW.out).1
      clear hly hq cq hyd hfd
      go_wp2_with fail
      refine CP.mono ?_
      rintro e V ⟨A3, m3, c3, rfl, ho3, hb3⟩
      have HO3 : Hid (DotsAt V V.heap.size A3 (killsTo (dotsTo l k) y 0) m3 c3) := Lib.hid (by show DotsAt V V.heap.size A3 (Dt.putD (dotsTo l k) y.dot) m3 c3; rw [HY.out]; exact ho3)
      have HW3 := Lib.hid (HW.out.trans (hb3.mono HW.out.size))
      clear ho3 hb3 CP e0 e1 e2 e3 e4 e5 e6
      go_wp2_with fail
      go_loopw [3, 5] (fun v i wr => ∃ (j m : Nat) (A : Option Addr) (c : Nat), j ≤ q.len ∧ i = .int .i64 (j : Int) ∧ v = .slice A m c ∧ DotsAt wr wr.heap.size A (killsTo (dotsTo l k) y j) m c ∧ Below w.heap.size w wr) (fun _ i _ => q.len - (intOf i).toNat)
      case atStart => exact ⟨0, m3, A3, c3, Nat.zero_le _, rfl, rfl, HO3.out, HW3.out⟩
      case round =>
        clear HO HW HO3 HW3
        obtain ⟨j, m4, A4, c4, hj, rfl, rfl, ho, hw⟩ := hrel
        have HO := Lib.hid ho
        have HW := Lib.hid hw
        clear ho hw
        obtain ⟨⟨e0, e1, e2, e3, e4, e5, e6⟩, hd⟩ := HQ.out wr HW.out
        have HD := Lib.hid hd
        clear hd
        by_cases hjl : j < q.len
        · obtain ⟨a2, x1, x2, ea, hlx, hx1, hx2, c1, c2⟩ := HD.out.dots.at_ (k := j) (by rw [HD.out.len]; exact hjl)
          have c2' : wr.cell? ⟨(a2.add (j * 2)).block, (a2.add (j * 2)).off + 1, none⟩ = some (.int .u64 (x2 : Int)) := by rw [Dt.add_next]; exact c2
          have HKJ := Lib.hid (kills_next (m := dotsTo l k) hlx)
          have h4 := kills_long (dotsTo l k) y j
          have h5 := HKL.out k
          rw [HO.out.len] at h4
          have CP := rputd_any wr A4 (killsTo (dotsTo l k) y j) m4 c4 (x1, x2) HO.out ⟨hx1, hx2⟩ (by omega)
          rw [ea] at e6
          clear c2 hlx h4 h5
          go_wp2_with fail
          refine CP.mono ?_
          rintro e V ⟨A5, m5, c5, rfl, ho3, hb3⟩
          rw [← HKJ.out] at ho3
          have HO3 := Lib.hid ho3
          have HW3 := Lib.hid (HW.out.trans (hb3.mono HW.out.size))
          clear ho3 hb3 CP e0 e1 e2 e3 e4 e5 e6 c1 c2'
          go_wp2
          go_roundw
          case rel => exact ⟨j + 1, m5, A5, c5, by omega, by go_num, rfl, HO3.out, HW3.out⟩
          case measure => simp [intOf]; omega
        · obtain rfl : j = q.len := by omega
          have HE : Hid (killsTo (dotsTo l k) y q.len = dotsTo l (k + 1)) := Lib.hid (by rw [HKN.out, HN.out])
          rw [HE.out] at HO
          have hk1 : k + 1 ≤ n := by omega
          go_wp2_with fail
          go_roundw
          case rel => exact ⟨k + 1, m4, A4, c4, hk1, by go_num, rfl, HO.out, HW.out⟩
          case measure => simp [intOf]; omega
    · obtain rfl : k = n := by omega
      have e : Hid (dotsTo l k = dotsE l) := Lib.hid (by unfold dotsTo dotsE; rw [List.take_of_length_le (by rw [HL.out.len]; exact Nat.le_refl _)])
      rw [e.out] at HO
      go_wp2
      go_ret
      exact ⟨A, m, c, rfl, HO.out, HW.out⟩
end Go.Proofs.Ytbaiiidkffafmaa.Ev
