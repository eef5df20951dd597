/- The contract of the program's 'told': the map of what a vector tells. For every list of at most 2^62 dots. -/
import Derived.Test.YtbpmbjpepjndaaaPDOne
import Derived.Test.YtbpmbjpepjndaaaPGather
namespace Go.Proofs.Ytbpmbjpepjndaaa.Dt
open Go.ChangeShapes Go.WideShapes Go.ChangeAt Go.RowKit Go.Maps
set_option linter.unusedVariables false

theorem pgood_x (w : World) (d : Dot) :
    Calls Try.prog 29 #[.agg #[.int .u16 (d.1 : Int), .int .u64 (d.2 : Int)]] w fun e w' => e = .returned (.bool (mayD d)) ∧ w' = w.alloc (.cells #[.int .u16 (d.1 : Int), .int .u64 (d.2 : Int)] 27) := by
  obtain ⟨a, n⟩ := d
  by_cases c1 : 1 ≤ a
  · have d1 : ((a : Int) != 0) = true := by rw [bne_iff_ne]; omega
    by_cases c2 : 1 ≤ n
    · have d2 : ((n : Int) != 0) = true := by rw [bne_iff_ne]; omega
      have hd : mayD (a, n) = decide ((n : Int) ≤ 281474976710655) := decide_eq_decide.2 ⟨fun h => by have := h.2.2; simp at this; omega, fun h => ⟨c1, c2, by simp; omega⟩⟩
      rw [hd]
      clear hd
      go_enter Try.func29, Try.ntmps29
      go_wp2
      go_ret
      exact ⟨rfl, rfl⟩
    · have hd : mayD (a, n) = false := decide_eq_false (fun h => c2 h.2.1)
      have d2 : ((n : Int) != 0) = false := by rw [bne_eq_false_iff_eq]; omega
      rw [hd]
      clear hd
      go_enter Try.func29, Try.ntmps29
      go_wp2
      go_ret
      exact ⟨rfl, rfl⟩
  · have hd : mayD (a, n) = false := decide_eq_false (fun h => c1 h.1)
    have d1 : ((a : Int) != 0) = false := by rw [bne_eq_false_iff_eq]; omega
    rw [hd]
    clear hd
    go_enter Try.func29, Try.ntmps29
    go_wp2
    go_ret
    exact ⟨rfl, rfl⟩
/-- the box of a dot that came in. -/
theorem box_at (w : World) (d : Dot) : ∀ V, Below (w.alloc (.cells #[.int .u16 (d.1 : Int), .int .u64 (d.2 : Int)] 27)).heap.size (w.alloc (.cells #[.int .u16 (d.1 : Int), .int .u64 (d.2 : Int)] 27)) V → V.cell? ⟨w.heap.size, 0, none⟩ = some (.int .u16 (d.1 : Int)) ∧ V.cell? ⟨w.heap.size, 1, none⟩ = some (.int .u64 (d.2 : Int)) := by
  intro V hV
  have h1 : (w.alloc (.cells #[.int .u16 (d.1 : Int), .int .u64 (d.2 : Int)] 27)).cell? ⟨w.heap.size, 0, none⟩ = some (.int .u16 (d.1 : Int)) := by simp [go_sem]
  have h2 : (w.alloc (.cells #[.int .u16 (d.1 : Int), .int .u64 (d.2 : Int)] 27)).cell? ⟨w.heap.size, 1, none⟩ = some (.int .u64 (d.2 : Int)) := by simp [go_sem]
  exact ⟨(hV.cell (World.block_lt_of_cell? _ _ h1)).trans h1, (hV.cell (World.block_lt_of_cell? _ _ h2)).trans h2⟩
/-- what a map says behind a dot more. -/
def stepM (f : Nat → Nat) (d : Dot) : Nat → Nat := fun e => stepV e (f e) d
theorem stepM_not {f : Nat → Nat} {d : Dot} (h : mayD d = false) : stepM f d = f := by
  funext e
  refine if_neg ?_
  rintro ⟨rfl, h2, h3⟩
  rw [h] at h2; cases h2
theorem stepM_put {f : Nat → Nat} {d : Dot} (h1 : mayD d = true) : (fun e => if e = d.1 then max (f d.1) d.2 else f e) = stepM f d := by
  funext e
  unfold stepM
  rw [step_max]
  by_cases he : e = d.1
  · subst he; rw [if_pos rfl, if_pos ⟨rfl, h1⟩]
  · rw [if_neg he, if_neg (fun h => he h.1.symm)]
theorem grown_two (w : World) (o1 o2 : Obj) (row : Option Nat) : w.grownBy ((w.alloc o1).alloc o2) row := (World.grownBy_alloc w o1 row).trans (World.grownBy_alloc _ o2 row)
theorem map_new (w : World) : MapAt (w.alloc (.map #[] 0)) w.heap.size 0 (fun _ => 0) := ⟨.map [], World.ownsMap_made _ _ _ _, holds_none⟩
theorem told_next {l : List Dot} {k : Nat} {x : Dot} (h : l[k]? = some x) : ofV (l.take (k + 1)) = stepM (ofV (l.take k)) x := funext fun e => of_next e h
set_option maxHeartbeats 4000000 in
theorem ptold_any (w : World) (A : Option Addr) (l : List Dot) (n c : Nat) (hl : l.length = n) (hd : Dots w w.heap.size A l) (hn : n ≤ 4611686018427387904) :
    Calls Try.prog 28 #[.slice A n c] w fun e w' => e = .returned (.map (some w.heap.size)) ∧ MapAt w' w.heap.size 65536 (ofV l) ∧ Below w.heap.size w w' := by
  have hmm := @run_makeMap Try.prog
  have HL := Lib.hid hl
  have HF := Lib.hid hd
  have HM0 := Lib.hid (map_new w)
  have HB0 : Hid (Below w.heap.size w (w.alloc (.map #[] 0))) := below_new w _
  clear hl hd
  go_enter Try.func28, Try.ntmps28
  go_wp2_with fail
  generalize w.alloc (.map #[] 0) = w0 at HM0 HB0 ⊢
  go_loopw [9] (fun i wr => ∃ k : Nat, k ≤ n ∧ i = .int .i64 (k : Int) ∧ MapAt wr w.heap.size k (ofV (l.take k)) ∧ Below w.heap.size w wr) (fun i _ => n - (intOf i).toNat)
  case atStart => exact ⟨0, Nat.zero_le _, rfl, HM0.out, HB0.out⟩
  case round =>
    obtain ⟨k, hk, rfl, hm, hw⟩ := hrel
    have HM := Lib.hid hm
    have HW := Lib.hid hw
    clear hm hw
    by_cases hlt : k < n
    · obtain ⟨ad, x, rfl, hB, hlx, hx1, hx2, hcx⟩ := HF.out.cells (k := k) (by rw [HL.out]; exact hlt)
      have HN := Lib.hid (told_next hlx)
      clear hlx
      obtain ⟨d1, d2⟩ := hcx wr HW.out
      have G1 : Hid (wr.grownBy ((wr.alloc (.cells #[.int .u16 (x.1 : Int), .int .u64 (x.2 : Int)] 27)).alloc (.cells #[.int .u16 (x.1 : Int), .int .u64 (x.2 : Int)] 27)) (some w.heap.size)) := grown_two _ _ _ _
      have HM1 : Hid (MapAt ((wr.alloc (.cells #[.int .u16 (x.1 : Int), .int .u64 (x.2 : Int)] 27)).alloc (.cells #[.int .u16 (x.1 : Int), .int .u64 (x.2 : Int)] 27)) w.heap.size k (ofV (l.take k))) := HM.out.below (below_new2 wr _ _) HM.out.lt
      have CG := fun W => pgood_x W x
      clear hcx
      cases hmx : mayD x with
      | false =>
        have HS := Lib.hid (stepM_not (f := ofV (l.take k)) hmx)
        rw [hmx] at CG
        clear hmx
        go_wp2_with fail
        refine (CG _).mono ?_
        rintro e w1 ⟨rfl, rfl⟩
        have HM2 : Hid (MapAt ((wr.alloc (.cells #[.int .u16 (x.1 : Int), .int .u64 (x.2 : Int)] 27)).alloc (.cells #[.int .u16 (x.1 : Int), .int .u64 (x.2 : Int)] 27)) w.heap.size (k + 1) (ofV (l.take (k + 1)))) := (HM1.out.more (Nat.le_succ _)).turn (by rw [HN.out, HS.out])
        have HW2 : Hid (Below w.heap.size w ((wr.alloc (.cells #[.int .u16 (x.1 : Int), .int .u64 (x.2 : Int)] 27)).alloc (.cells #[.int .u16 (x.1 : Int), .int .u64 (x.2 : Int)] 27))) := HW.out.grown G1.out HW.out.size (fun j hj => by cases hj; exact Nat.le_refl _)
        clear d1 d2
        go_wp2
        go_roundw
        case rel => exact ⟨k + 1, by omega, by go_num, HM2.out, HW2.out⟩
        case measure => simp [intOf]; omega
      | true =>
        have HP : Hid (0 < x.2) := ((may_iff x).1 hmx).2.1
        have HS := Lib.hid (stepM_put (f := ofV (l.take k)) hmx)
        rw [hmx] at CG
        clear hmx
        go_wp2_with fail
        refine (CG _).mono ?_
        rintro e w1 ⟨rfl, rfl⟩
        obtain ⟨d3, d4⟩ := box_at wr x _ (below_new (wr.alloc (.cells #[.int .u16 (x.1 : Int), .int .u64 (x.2 : Int)] 27)) (.cells #[.int .u16 (x.1 : Int), .int .u64 (x.2 : Int)] 27))
        have hfl : ofV (l.take k) x.1 < 18446744073709551616 := Nat.lt_trans (of_lt _ _) (by decide)
        by_cases hlt2 : ofV (l.take k) x.1 < x.2
        · rw [Nat.max_eq_right (Nat.le_of_lt hlt2)] at HS
          go_wp2_with (first
            | (at_lookup; refine wpList_look (by rfl) _ _ rfl w.heap.size k x.1 (ofV (l.take k)) rfl HM1.out hx1 rfl ?_)
            | (at_mapUpdate; refine wpList_put rfl _ _ _ rfl w.heap.size k x.1 x.2 (ofV (l.take k)) rfl HM1.out (by omega) hx1 rfl rfl HP.out hx2 ?_; intro w2 hm2 hg2
               have HM2 : Hid (MapAt w2 w.heap.size (k + 1) (ofV (l.take (k + 1)))) := hm2.turn (HS.out.trans HN.out.symm)
               have HW2 : Hid (Below w.heap.size w w2) := HW.out.grown (G1.out.trans hg2) HW.out.size (fun j hj => by cases hj; exact Nat.le_refl _)
               clear hm2 hg2 d1 d2 d3 d4)
            | go_in)
          go_roundw
          case rel => exact ⟨k + 1, by omega, by go_num, HM2.out, HW2.out⟩
          case measure => simp [intOf]; omega
        · have HP2 : Hid (0 < ofV (l.take k) x.1) := Nat.lt_of_lt_of_le HP.out (Nat.le_of_not_lt hlt2)
          rw [Nat.max_eq_left (Nat.le_of_not_lt hlt2)] at HS
          go_wp2_with (first
            | (at_lookup; refine wpList_look (by rfl) _ _ rfl w.heap.size k x.1 (ofV (l.take k)) rfl HM1.out hx1 rfl ?_)
            | (at_mapUpdate; refine wpList_put rfl _ _ _ rfl w.heap.size k x.1 (ofV (l.take k) x.1) (ofV (l.take k)) rfl HM1.out (by omega) hx1 rfl rfl HP2.out hfl ?_; intro w2 hm2 hg2
               have HM2 : Hid (MapAt w2 w.heap.size (k + 1) (ofV (l.take (k + 1)))) := hm2.turn (HS.out.trans HN.out.symm)
               have HW2 : Hid (Below w.heap.size w w2) := HW.out.grown (G1.out.trans hg2) HW.out.size (fun j hj => by cases hj; exact Nat.le_refl _)
               clear hm2 hg2 d1 d2 d3 d4)
            | go_in)
          go_roundw
          case rel => exact ⟨k + 1, by omega, by go_num, HM2.out, HW2.out⟩
          case measure => simp [intOf]; omega
    · obtain rfl : k = n := by omega
      have e : Hid (l.take k = l) := Lib.hid (List.take_of_length_le (by rw [HL.out]; exact Nat.le_refl _))
      rw [e.out] at HM
      have HT := Lib.hid HM.out.tight
      go_wp2
      go_ret
      exact ⟨rfl, HT.out, HW.out⟩
end Go.Proofs.Ytbpmbjpepjndaaa.Dt
