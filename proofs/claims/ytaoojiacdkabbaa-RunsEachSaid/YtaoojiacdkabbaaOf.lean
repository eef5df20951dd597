/- The contract of the document's Of for layer runs: some numbers. Condition: at most 500 numbers. -/
import Derived.Test.YtaoojiacdkabbaaNumbers
namespace Go.Proofs.Ytaoojiacdkabbaa.Ru
open Go.ChangeShapes Go.WideShapes Go.ChangeAt Go.RowKit
set_option linter.unusedVariables false

theorem join_one (wr W : World) (g n c x : Nat) (A : Option Addr) (l : List Run) (hl : l.length = n) (hA : A = none → n = 0 ∧ c = 0) (hb : Runs wr wr.heap.size A l) (hn : n ≤ 512) (hx : x < 18446744073709551616) (bel : Below wr.heap.size wr W)
    (hg : g < W.heap.size) (hc0 : W.cell? ⟨g, 0, none⟩ = some (.int .u64 (x : Int))) (hc1 : W.cell? ⟨g, 1, none⟩ = some (.int .u64 (x : Int))) :
    Calls Try.prog 12 #[.slice A n c, .slice (some ⟨g, 0, none⟩) 1 1] W fun e w' => ∃ A' n' c', e = .returned (.slice A' n' c') ∧ (setL l [(x, x)] 0).length = n' ∧ w'.ownsRow wr.heap.size 31 2 (.slice A' n' c') n' (rv (setL l [(x, x)] 0)) ∧ Below wr.heap.size wr w' := by
  have h2 : Runs W W.heap.size (some ⟨g, 0, none⟩) [(x, x)] := ⟨fun r hr => by obtain rfl := List.mem_singleton.1 hr; exact ⟨hx, hx⟩, fun _ => ⟨_, rfl, hg, fun j u hu => by
    rw [zero_add]
    match j, hu with
    | 0, hu => obtain rfl : _ = u := by simpa [rv] using hu
               exact hc0
    | 1, hu => obtain rfl : _ = u := by simpa [rv] using hu
               exact hc1
    | j + 2, hu => simp [rv] at hu⟩⟩
  refine (join_any W A (some ⟨g, 0, none⟩) l [(x, x)] n 1 c 1 hl rfl hA (fun e => by cases e) (hb.up bel) h2 hn (by decide)).mono ?_
  rintro e w' ⟨A', n', c', rfl, hn', ho, hb'⟩
  exact ⟨A', n', c', rfl, hn', own_less ho bel.size, bel.trans (hb'.mono bel.size)⟩

def OfRel (w : World) (l : List Nat) (len : Nat) (o i : Value) (wr : World) : Prop :=
  ∃ (k m : Nat) (A : Option Addr) (c : Nat), k ≤ len ∧ i = .int .i64 (k : Int) ∧ o = .slice A m c ∧ (ofL (l.take k)).length = m ∧ wr.ownsRow w.heap.size 31 2 (.slice A m c) m (rv (ofL (l.take k))) ∧ Below w.heap.size w wr

set_option maxHeartbeats 4000000 in
theorem of_any (w : World) (A : Option Addr) (l : List Nat) (len c : Nat) (hl : l.length = len) (hb : Nums w w.heap.size A l) (h5 : len ≤ 500) :
    Calls Try.prog 33 #[.slice A len c] w (RunPost w (ofL l)) := by
  have HB := Lib.hid hb
  have HL := Lib.hid hl
  have HR : Hid (OfRel w l len (.slice none 0 0) (.int .i64 0) w) := ⟨0, 0, none, 0, Nat.zero_le _, rfl, rfl, rfl, World.ownsRow_nil _ _ _ _, Below.refl _ _⟩
  clear hb hl
  go_enter Try.func33, Try.ntmps33
  go_wp2_with fail
  go_loopw [3, 4] (fun o i wr => OfRel w l len o i wr) (fun _ i _ => len - (intOf i).toNat)
  case atStart => exact HR.out
  case round =>
    clear HR
    obtain ⟨k, m, A3, c3, hk, rfl, rfl, hm, ho, hw⟩ := hrel
    have HO := Lib.hid ho
    have HW := Lib.hid hw
    have HM := Lib.hid hm
    have hmk : m ≤ 500 := by rw [← hm]; have := ofL_length (l.take k); rw [List.length_take] at this; omega
    have hA3 := Lib.hid (own_len ho).2.2
    clear ho hw hm
    by_cases hlt : k < len
    · obtain ⟨ad, x, rfl, hlx, hx, hcell⟩ := (HB.out.up HW.out).at_ (k := k) (by rw [HL.out]; exact hlt)
      have HT := Lib.hid (ofL_take hlx)
      have HF := Lib.hid (fit_order (ofL_spec (l.take k)).1)
      have HC : Hid (∀ V, Below wr.heap.size wr V → V.cell? (ad.add k) = some (.int .u64 (x : Int))) := fun V hV => (hV.cell (World.block_lt_of_cell? wr _ hcell)).trans hcell
      clear hlx
      generalize ofL (l.take k) = o at *
      have HRU := Lib.hid (runs_own HO.out HF.out)
      go_wp2_with fail
      go_region_held3 (fun V => V.cell? (ad.add k) = some (.int .u64 (x : Int))) (first | go_keep | assumption | exact HC.out _ (by (repeat (first | exact Below.refl _ _ | assumption | apply bel_drew)))) (first
        | (go_at_call 12; (with_reducible refine (join_one wr _ _ m c3 x A3 o HM.out hA3.out HRU.out (by omega) hx ?_ ?_ ?_ ?_).mono ?_); (focus (exact ((Below.refl _ _).drew).alloc (by simp) _)); (focus (simp; done)); (focus (simp [go_sem]; done)); (focus (simp [go_sem]; done)); rintro e V ⟨A5, n5, c5, rfl, hn5, ho5, hb5⟩; have hcV : V.cell? (ad.add k) = some (.int .u64 (x : Int)) := HC.out V hb5))
      all_goals
        have HR : Hid (OfRel w l len (.slice A5 n5 c5) (.int .i64 ((k : Int) + 1)) V) := ⟨k + 1, n5, A5, c5, hlt, by go_num, rfl, by rw [HT.out]; exact hn5, by rw [HT.out]; exact own_less ho5 HW.out.size, HW.out.trans (hb5.mono HW.out.size)⟩
        clear ho5 hn5
        go_wp2
        go_roundw
        case rel => exact HR.out
        case measure => simp [intOf]; omega
    · obtain rfl : k = len := by omega
      have e : Hid (l.take k = l) := List.take_of_length_le (by rw [HL.out]; exact Nat.le_refl _)
      rw [e.out] at HO HM
      go_wp2
      go_ret
      exact ⟨A3, m, c3, rfl, HM.out, HO.out, HW.out⟩
end Go.Proofs.Ytaoojiacdkabbaa.Ru
