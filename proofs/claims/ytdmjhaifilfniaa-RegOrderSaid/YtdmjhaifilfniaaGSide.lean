/- What the walks of layer reg ask of the program; works. -/
import Derived.Test.YtdmjhaifilfniaaGShow
namespace Go.Proofs.Ytdmjhaifilfniaa.Rg
open Go.ChangeShapes Go.WideShapes Go.ChangeAt Go.RowKit
set_option linter.unusedVariables false

/-- texts come out. -/
def TextOut (w : World) (l : List ByteArray) (e : Ending) (w' : World) : Prop := ∃ A n c, e = .returned (.slice A n c) ∧ Kd.TextsAt w' w'.heap.size A l n c ∧ Below w.heap.size w w'
/-- a line comes out. -/
def LineOut (w : World) (x : Kd.Ln) (e : Ending) (w' : World) : Prop := ∃ p : Kd.LV, e = .returned (.agg #[.int .u8 (p.fld : Int), .string p.txt, .slice p.adr p.len p.cap]) ∧ Kd.LineIs w' w'.heap.size p x ∧ Below w.heap.size w w'
/-- what the walks ask of the program's functions. -/
structure PReg : Prop where
  winner : ∀ (w : World) (A : Option Addr) (l : List Vl) (n c : Nat), ValsAt w w.heap.size A l n c → n ≤ 100 →
    Calls Try.prog 6 #[.slice A n c] w fun e w' => e = .returned (.tuple #[vval (winV l), .bool (decide (0 < l.length))]) ∧ Below w.heap.size w w'
  texts : ∀ (w : World) (A : Option Addr) (l : List Vl) (n c : Nat), ValsAt w w.heap.size A l n c → n ≤ 100 →
    Calls Try.prog 9 #[.slice A n c] w (TextOut w (textsT (l.map Prod.snd)))
  shows : ∀ (w : World) (f : Nat) (A : Option Addr) (l : List Vl) (n c : Nat), f < 256 → ValsAt w w.heap.size A l n c → n ≤ 100 →
    Calls Try.prog 12 #[.int .u8 (f : Int), .slice A n c] w (LineOut w (showV f l))

/-- the example's values. -/
def exL : List Vl := [((1, 2), ⟨#[97]⟩), ((2, 2), ⟨#[98]⟩), ((1, 1), ⟨#[97]⟩)]
theorem short_one (b : UInt8) : Kd.Short ⟨#[b]⟩ := by
  show (1 : Nat) ≤ _
  decide
theorem ex_texts : textsT (exL.map Prod.snd) = [⟨#[97]⟩, ⟨#[98]⟩] := by
  refine ord_uniq (texts_ord _) ?_ (fun x => by
    rw [texts_mem]
    simp only [exL, List.map_cons, List.map_nil, List.mem_cons, List.not_mem_nil, or_false]
    exact ⟨fun h => h.elim .inl (fun h => h.elim .inr .inl), fun h => h.elim .inl (fun h => .inr (.inl h))⟩)
  unfold OrdT
  simp only [List.pairwise_cons, List.mem_singleton, List.not_mem_nil, forall_eq, false_imp_iff, implies_true, List.Pairwise.nil, and_true]
  unfold ltT
  rw [ByteArray.toList_eq, ByteArray.toList_eq]
  decide
theorem ex_show : showV 3 exL = (3, ⟨#[98]⟩, [⟨#[97]⟩]) := by
  rw [show_some (by decide), ex_texts, show (winV exL).2 = (⟨#[98]⟩ : ByteArray) from rfl]
  have h : (⟨#[97]⟩ : ByteArray) ≠ ⟨#[98]⟩ := by decide
  unfold otherT
  simp [h]
theorem ex_vals (w : World) : ValsAt (w.alloc (.cells #[.int .u16 1, .int .u64 2, .string ⟨#[97]⟩, .int .u16 2, .int .u64 2, .string ⟨#[98]⟩, .int .u16 1, .int .u64 1, .string ⟨#[97]⟩] 29)) (w.alloc (.cells #[.int .u16 1, .int .u64 2, .string ⟨#[97]⟩, .int .u16 2, .int .u64 2, .string ⟨#[98]⟩, .int .u16 1, .int .u64 1, .string ⟨#[97]⟩] 29)).heap.size (some ⟨w.heap.size, 0, none⟩) exL 3 3 := by
  refine ⟨rfl, (fun h => by cases h), Nat.le_refl _, by decide, by decide, ?_, fun _ => ⟨_, rfl, by rw [alloc_size]; exact Nat.lt_succ_self _, fun j u hu => ?_⟩⟩
  · intro x hx
    simp only [exL, List.mem_cons, List.not_mem_nil, or_false] at hx
    rcases hx with rfl | rfl | rfl <;> exact ⟨by decide, by decide, short_one _⟩
  · rw [Dt.zero_add, World.cell?_alloc_new]
    have e : vv exL = [.int .u16 1, .int .u64 2, .string ⟨#[97]⟩, .int .u16 2, .int .u64 2, .string ⟨#[98]⟩, .int .u16 1, .int .u64 1, .string ⟨#[97]⟩] := rfl
    rw [e] at hu
    simpa using hu
theorem one_text (V : World) (s : ByteArray) (hs : Kd.Short s) : Kd.TextsAt (V.alloc (.cells #[.string s] 9)) (V.alloc (.cells #[.string s] 9)).heap.size (some ⟨V.heap.size, 0, none⟩) [s] 1 1 :=
  ⟨rfl, (fun h => by cases h), Nat.le_refl _, by decide, by decide, (fun x hx => by rw [List.mem_singleton] at hx; rw [hx]; exact hs), lies_text V s⟩

theorem one_text1 (V : World) (o : Obj) (s : ByteArray) (hs : Kd.Short s) : Kd.TextsAt ((V.alloc o).alloc (.cells #[.string s] 9)) ((V.alloc o).alloc (.cells #[.string s] 9)).heap.size (some ⟨V.heap.size + 1, 0, none⟩) [s] 1 1 := by
  have h := one_text (V.alloc o) s hs
  rw [show (V.alloc o).heap.size = V.heap.size + 1 from alloc_size V o] at h
  exact h

set_option maxHeartbeats 8000000 in
theorem works_any (P : PReg) (w : World) : Calls Try.prog 5 #[] w fun e w' => e = .returned (.bool true) ∧ Below w.heap.size w w' := by
  have HB1 := Lib.hid (below_new w (.cells #[.int .u16 1, .int .u64 2, .string ⟨#[97]⟩, .int .u16 2, .int .u64 2, .string ⟨#[98]⟩, .int .u16 1, .int .u64 1, .string ⟨#[97]⟩] 29))
  have CS := P.shows _ 3 _ exL 3 3 (by decide) (ex_vals w) (by decide)
  rw [ex_show] at CS
  go_enter Try.func5, Try.ntmps5
  go_wp2_with fail
  refine CS.mono ?_
  rintro e w2 ⟨⟨p0, p1, p2, p3, p4⟩, rfl, hp, hb⟩
  obtain rfl : p0 = 3 := hp.fld
  obtain rfl : p1 = ⟨#[98]⟩ := hp.txt
  have HM := Lib.hid hp.more
  have HB2 := Lib.hid (HB1.out.trans (hb.mono HB1.out.size))
  have HB3 := Lib.hid (below_new2 w2 (.cells #[.int .u8 3, .string ⟨#[98]⟩, .slice p2 p3 p4] 37) (.cells #[.string ⟨#[97]⟩] 9))
  have CT := Kd.rtexts_any _ _ _ p2 (some ⟨w2.heap.size + 1, 0, none⟩) [⟨#[97]⟩] [⟨#[97]⟩] p3 1 p4 1 (HM.out.up HB3.out) (one_text1 w2 (.cells #[.int .u8 3, .string ⟨#[98]⟩, .slice p2 p3 p4] 37) ⟨#[97]⟩ (short_one _))
  rw [decide_eq_true rfl] at CT
  clear hp hb HB1 CS
  go_wp2_with fail
  refine CT.mono ?_
  rintro e w3 ⟨rfl, m, rfl⟩
  go_wp2
  go_ret
  exact ⟨rfl, Kd.bel_drewN (HB2.out.trans (HB3.out.mono HB2.out.size)) m⟩
end Go.Proofs.Ytdmjhaifilfniaa.Rg
