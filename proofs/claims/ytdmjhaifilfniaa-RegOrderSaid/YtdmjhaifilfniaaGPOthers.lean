/- The contract of the program's others of layer reg: slices.DeleteFunc with a function that holds a text. -/
import Derived.Test.YtdmjhaifilfniaaGPTextsW
namespace Go.Proofs.Ytdmjhaifilfniaa.Rg
open Go.ChangeShapes Go.WideShapes Go.ChangeAt Go.RowKit
set_option linter.unusedVariables false

theorem eq_lb (x : List UInt8) (s : ByteArray) : ((lb x).toList == s.toList) = decide (x = bl s) := by
  rw [Kd.eq_texts]
  have : lb x = s ↔ x = bl s := ⟨fun h => by rw [← h, bl_lb], fun h => by rw [h, lb_bl]⟩
  by_cases h : x = bl s
  · rw [decide_eq_true h, decide_eq_true (this.2 h)]
  · rw [decide_eq_false h, decide_eq_false (fun e => h (this.1 e))]
set_option maxHeartbeats 1000000 in
theorem pfunc_any (s : ByteArray) (x : List UInt8) (B : Nat) (W : World) (hc : W.cell? ⟨B, 0, none⟩ = some (.string s)) :
    FnGives Try.prog 23 #[.pointer (some ⟨B, 0, none⟩)] #[encStr x] (.bool (decide (x = bl s))) W := by
  rw [← eq_lb]
  show Calls Try.prog 23 #[.string (lb x), .pointer (some ⟨B, 0, none⟩)] W _
  generalize lb x = t
  go_enter Try.func23, Try.ntmps23
  go_wp2
  go_ret
  exact ⟨rfl, 0, rfl⟩
theorem pred_at (s : ByteArray) (B : Nat) (w : World) (hB : B < w.heap.size) (hc : w.cell? ⟨B, 0, none⟩ = some (.string s)) :
    PredAt Try.prog 23 #[.pointer (some ⟨B, 0, none⟩)] encStr (fun x => decide (x = bl s)) w :=
  fun W x hb => pfunc_any s x B W ((hb.cell (p := ⟨B, 0, none⟩) hB).trans hc)
theorem pred_over (s : ByteArray) (B blk size : Nat) (w : World) (hB : B < w.heap.size) (hne : B ≠ blk) (hc : w.cell? ⟨B, 0, none⟩ = some (.string s)) :
    PredOver Try.prog 23 #[.pointer (some ⟨B, 0, none⟩)] encStr (fun x => decide (x = bl s)) blk 0 size w :=
  fun n os dk x _ => pfunc_any s x B _ (by
    unfold sortWorld
    rw [Go.Sort.cell?_grow _ _ _ (by show B < (Go.Sort.putRow _ _ _ _ _).heap.size; rw [Go.Sort.size_putRow]; exact hB), Go.Sort.cell?_putRow_other _ _ blk 0 _ _ (Or.inl hne)]
    exact hc)
theorem holds_part {w : World} {g : Nat} {a b : List (List UInt8)} (h : HoldsT w g (a ++ b)) : HoldsT w g a := fun j hj => by
  have hj2 : j < (a ++ b).toArray.size := by
    have : j < a.length := by simpa using hj
    simp; omega
  have h1 := h j hj2
  rw [getElem!_pos _ j hj2] at h1
  rw [getElem!_pos _ j hj]
  simp only [List.getElem_toArray] at h1 ⊢
  rw [List.getElem_append_left (by simpa using hj)] at h1
  exact h1
theorem holds_later {w W : World} {g : Nat} {a : List (List UInt8)} (h : HoldsT w g a) (hg : g < w.heap.size) (hb : Below w.heap.size w W) : HoldsT W g a := fun j hj =>
  ⟨(hb.cell (p := ⟨g, 0 + j, none⟩) hg).trans (h j hj).1, (hb.frozen (p := ⟨g, 0 + j, none⟩) hg).trans (h j hj).2⟩
/-- the texts but for one: in their place. -/
def OtherPost (w : World) (g : Nat) (l : List ByteArray) (s : ByteArray) (n : Nat) (e : Ending) (w' : World) : Prop :=
  e = .returned (.slice (some ⟨g, 0, none⟩) (otherT s l).length n) ∧ HoldsT w' g ((otherT s l).map bl) ∧ w.grownBy w' (some g)
set_option maxHeartbeats 4000000 in
theorem pothers_any (w : World) (g m n : Nat) (l : List ByteArray) (s : ByteArray) (hl : l.length = m) (hH : HoldsT w g (l.map bl)) (hg : g < w.heap.size) (hm : m ≤ n) (hn : n ≤ 1099511627776) :
    Calls Try.prog 19 #[.slice (some ⟨g, 0, none⟩) m n, .string s] w (OtherPost w g l s n) := by
  have hb := below_new w (.cells #[.string s] 9)
  have hsz : (l.map bl).toArray.size = m := by simp [hl]
  have hc : (w.alloc (.cells #[.string s] 9)).cell? ⟨w.heap.size, 0, none⟩ = some (.string s) := by rw [World.cell?_alloc_new]; rfl
  have eg : ∀ args w, (callFunc 23 args).run Try.prog w = .ok (.enter 23 args) w := enters_of Try.func23 (by kernel_rfl) rfl
  have CD := AnyE.slices_DeleteFunc Try.delS encStr (fun _ => rfl) (fun x => decide (x = bl s)) 23 #[.pointer (some ⟨w.heap.size, 0, none⟩)] eg [] Try.zeroValue9 g 0 n (l.map bl).toArray (w.alloc (.cells #[.string s] 9))
    (pred_at s w.heap.size _ (by rw [alloc_size]; omega) hc) (pred_over s w.heap.size g _ _ (by rw [alloc_size]; omega) (by omega) hc) (holds_later hH hg hb) (by omega) (by omega)
  change Calls Try.prog 22 _ _ _ at CD
  rw [hsz] at CD
  have HHH := Lib.hid (holds_later hH hg hb)
  have HO := Lib.hid (del_other s l)
  have HL := Lib.hid hl
  have HG := Lib.hid hg
  have hle : Hid ((otherT s l).length ≤ m) := Lib.hid (by rw [← hl]; unfold otherT; exact List.length_filter_le _ _)
  clear hH hl hsz hb eg hc hg
  rw [show (l.map bl).toArray.toList = l.map bl from rfl, HO.out, List.length_map] at CD
  go_enter Try.func19, Try.ntmps19
  go_wp2_with fail
  refine CD.mono ?_
  rintro e w2 ⟨rfl, q, rfl⟩
  go_wp2
  go_ret
  refine ⟨rfl, holds_part (b := List.replicate (m - (otherT s l).length) []) (Go.Sort.holds_putRow encStr _ g 0 _ _ (Go.Sort.holds_ahead encStr _ q g 0 _ HHH.out) (by have := hle.out; simp [HL.out]; omega)), ?_⟩
  refine ⟨rfl, rfl, rfl, by simp [Go.Sort.ahead], fun k hk hne => ?_⟩
  have : g ≠ k := fun e => hne (by rw [e])
  simp [Go.Sort.putRow, Go.Sort.mapBlock, Go.Sort.ahead, Array.getElem?_modify, this]
  exact (below_new w (.cells #[.string s] 9)).block k hk
end Go.Proofs.Ytdmjhaifilfniaa.Rg
