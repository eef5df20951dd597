/- Words and contracts that the proofs of this seat stand on, part 9 of 22. -/
import Derived.Test.YtmebokpgiehgmaaGreatMgC
import Derived.Test.YtmebokpgiehgmaaGreatMgH
import Derived.Deep.RegionHeld3
import Derived.Deep.RegionLaw
import Derived.Test.YtmebokpgiehgmaaGreatMgF
import Derived.ShutString
import Derived.ChangeOld
import Derived.Deep.DeepHandedRow
import Derived.Deep.Matrix
import Derived.SizedLaws
import Derived.Deep.SlicePairs
import Derived.Lib.SmallJoins

/- What the walks of layer kills ask of the program; the chapter's example. -/
namespace Go.Proofs.YtmebokpgiehgmaaGreat.Kl
open Go.ChangeShapes Go.WideShapes Go.ChangeAt Go.RowKit
set_option linter.unusedVariables false
set_option maxRecDepth 4000

/-- an event, stripped. -/
def stripE (c : List Cx.Part) (x : Ev.Evt) : Ev.Evt := if Cx.hasC c x.dot = true then ⟨x.dot, x.kind, x.cid, x.fld, x.txt, []⟩ else x
/-- an event comes out. -/
def OnePost (w : World) (x : Ev.Evt) (e : Ending) (w' : World) : Prop := ∃ q : Ev.EV, e = .returned q.val ∧ Ev.EventIs w' w'.heap.size q x ∧ Below w.heap.size w w'
/-- the answers of the program's functions. -/
structure PKl : Prop where
  editF : ∀ (w : World) (A : Option Addr) (l : List Ev.Evt) (n c cid f : Nat), Ev.EventsAt w w.heap.size A l n c → n ≤ 1024 → (∀ x ∈ l, x.kills.length ≤ 1024) → cid < 18446744073709551616 → f < 256 → Calls Tryz.prog 18 #[.slice A n c, .int .u64 (cid : Int), .int .u8 (f : Int)] w (DotsFar w (Ev.dotsE (l.filter (editB cid f))))
  liveF : ∀ (w : World) (A : Option Addr) (l : List Ev.Evt) (n c : Nat), Ev.EventsAt w w.heap.size A l n c → n ≤ 1024 → (∀ x ∈ l, x.kills.length ≤ 65536) → Calls Tryz.prog 17 #[.slice A n c] w (EvFar w (liveE l))
  keep : ∀ (w : World) (A A2 : Option Addr) (l : List Dt.Dot) (x : List Cx.Part) (n c n2 c2 : Nat), Ev.DotsAt w w.heap.size A l n c → Cx.CtxAt w A2 x n2 c2 → n ≤ 1024 → Cx.fewC x = true → Calls Tryz.prog 7 #[.slice A n c, .slice A2 n2 c2] w (Ev.DPost w (Dt.sortD (l.filter (Cx.hasC x))))
  drop : ∀ (w : World) (A A2 : Option Addr) (l : List Dt.Dot) (x : List Cx.Part) (n c n2 c2 : Nat), Ev.DotsAt w w.heap.size A l n c → Cx.CtxAt w A2 x n2 c2 → n ≤ 1024 → Cx.fewC x = true → Calls Tryz.prog 8 #[.slice A n c, .slice A2 n2 c2] w (Ev.DPost w (Dt.sortD (l.filter fun d => !Cx.hasC x d)))
  strip : ∀ (w : World) (A2 : Option Addr) (q : Ev.EV) (e : Ev.Evt) (x : List Cx.Part) (n2 c2 : Nat), Ev.EventIs w w.heap.size q e → Cx.CtxAt w A2 x n2 c2 → Cx.fewC x = true → e.kills.length ≤ 1024 → Calls Tryz.prog 15 #[q.val, .slice A2 n2 c2] w (OnePost w (stripE x e))
theorem PKl.edit (P : PKl) : ∀ (w : World) (A : Option Addr) (l : List Ev.Evt) (n c cid f : Nat), Ev.EventsAt w w.heap.size A l n c → n ≤ 1024 → (∀ x ∈ l, x.kills.length ≤ 1024) → cid < 18446744073709551616 → f < 256 → Calls Tryz.prog 18 #[.slice A n c, .int .u64 (cid : Int), .int .u8 (f : Int)] w (Ev.DPost w (Ev.dotsE (l.filter (editB cid f)))) := fun w  A  l  n c cid f  h0 h1 h2 h3 h4 => (P.editF w  A  l  n c cid f  h0 h1 h2 h3 h4).mono fun e W h => h.post
theorem PKl.live (P : PKl) : ∀ (w : World) (A : Option Addr) (l : List Ev.Evt) (n c : Nat), Ev.EventsAt w w.heap.size A l n c → n ≤ 1024 → (∀ x ∈ l, x.kills.length ≤ 65536) → Calls Tryz.prog 17 #[.slice A n c] w (Ev.EvPost w (liveE l)) := fun w  A  l  n c  h0 h1 h2 => (P.liveF w  A  l  n c  h0 h1 h2).mono fun e W h => h.post

/-- the chapter's events. -/
def worksA : Ev.Evt := ⟨(1, 1), 1, 5, 1, ⟨#[]⟩, []⟩
def worksB : Ev.Evt := ⟨(1, 2), 1, 5, 1, ⟨#[]⟩, [(1, 1)]⟩
theorem works_live : liveE [worksA, worksB] = [worksB] := by
  unfold liveE
  rw [Ev.sort_same (by unfold Ev.OrdE; decide)]
  have h1 : liveB [worksA, worksB] worksA = false := by
    unfold liveB
    rw [(dead_iff [worksA, worksB] worksA.dot).2 ⟨worksB, by simp, by simp [worksA, worksB]⟩]
    simp
  have h2 : liveB [worksA, worksB] worksB = true := by
    have h3 : deadB [worksA, worksB] worksB.dot = false := by
      rw [← Bool.not_eq_true, dead_iff]
      rintro ⟨x, hx, hd⟩
      simp only [List.mem_cons, List.not_mem_nil, or_false] at hx
      rcases hx with rfl | rfl
      · simp [worksA] at hd
      · simp [worksB] at hd
    unfold liveB
    rw [h3]
    simp [worksB]
  rw [List.filter_cons_of_neg (by rw [h1]; decide), List.filter_cons_of_pos h2, List.filter_nil]
theorem works_dots : Ev.dotsE ([worksB].filter (editB 5 1)) = [(1, 1), (1, 2)] := by decide

/-- a row of dots. -/
theorem dots_row {W : World} {g n : Nat} {l : List Dt.Dot} (hn : l.length = n) (hw : n ≤ 8796093022208) (hf : Dt.Fit l) (h0 : 0 < n) (h : ∀ k x, l[k]? = some x → W.cell? ⟨g, k * 2, none⟩ = some (.int .u16 (x.1 : Int)) ∧ W.cell? ⟨g, k * 2 + 1, none⟩ = some (.int .u64 (x.2 : Int))) : Ev.DotsAt W W.heap.size (some ⟨g, 0, none⟩) l n n := by
  refine ⟨hn, (fun e => by cases e), Nat.le_refl _, by omega, hw, hf, fun _ => ⟨_, rfl, ?_, fun j u hu => ?_⟩⟩
  · have h1 := (h 0 _ (List.getElem?_eq_getElem (by omega))).1
    exact World.block_lt_of_cell? W _ h1
  · rw [Dt.zero_add]
    have hj := (List.getElem?_eq_some_iff.1 hu).1
    rw [Dt.dv_length] at hj
    have hd : j / 2 < l.length := by omega
    have hg := List.getElem?_eq_getElem hd
    obtain ⟨g1, g2⟩ := Dt.dv_get hg
    obtain ⟨c1, c2⟩ := h _ _ hg
    rcases Nat.mod_two_eq_zero_or_one j with h0 | h0
    · have e : j = j / 2 * 2 := by omega
      rw [← e] at g1 c1
      rw [g1] at hu
      cases hu
      exact c1
    · have e : j = j / 2 * 2 + 1 := by omega
      rw [← e] at g2 c2
      rw [g2] at hu
      cases hu
      exact c2
/-- a row of two events. -/
theorem two_row (V : World) (p q : Ev.EV) {B : Nat} (hB : V.heap.size < B) : Dt.Lies (V.alloc (.cells #[.int .u16 (p.dev : Int), .int .u64 (p.num : Int), .int .u8 (p.kind : Int), .int .u64 (p.cid : Int), .int .u8 (p.fld : Int), .string p.txt, .slice p.adr p.len p.cap, .int .u16 (q.dev : Int), .int .u64 (q.num : Int), .int .u8 (q.kind : Int), .int .u64 (q.cid : Int), .int .u8 (q.fld : Int), .string q.txt, .slice q.adr q.len q.cap] 30)) B (some ⟨V.heap.size, 0, none⟩) (Ev.ev [p, q]) := fun _ => by
  refine ⟨_, rfl, hB, fun j u hu => ?_⟩
  rw [Dt.zero_add, World.cell?_alloc_new]
  have e : Ev.ev [p, q] = p.cells ++ q.cells := by simp [Ev.ev]
  rw [e] at hu
  simpa using hu
/-- a row of the example's two dots. -/
structure Row2 (W : World) (g : Nat) : Prop where
  c0 : W.cell? ⟨g, 0, none⟩ = some (.int .u16 1)
  c1 : W.cell? ⟨g, 1, none⟩ = some (.int .u64 1)
  c2 : W.cell? ⟨g, 2, none⟩ = some (.int .u16 1)
  c3 : W.cell? ⟨g, 3, none⟩ = some (.int .u64 2)
theorem Row2.kept {W V : World} {g : Nat} (hb : Below W.heap.size W V) (h : Row2 W g) : Row2 V g := ⟨Ev.stays hb h.c0, Ev.stays hb h.c1, Ev.stays hb h.c2, Ev.stays hb h.c3⟩
theorem cutp {p q : Prop} (h : p) (g : p → q) : q := g h
/-- the comparison in the chapter's example, whenever it comes. -/
theorem works_same {w W : World} {g : Nat} {A : Option Addr} {n c : Nat} (hW : Below w.heap.size w W) (hr : Ev.DotsAt W W.heap.size A [(1, 1), (1, 2)] n c)
    (c0 : W.cell? ⟨g, 0, none⟩ = some (.int .u16 1)) (c1 : W.cell? ⟨g, 1, none⟩ = some (.int .u64 1)) (c2 : W.cell? ⟨g, 2, none⟩ = some (.int .u16 1)) (c3 : W.cell? ⟨g, 3, none⟩ = some (.int .u64 2)) :
    Calls Tryz.prog 10 #[.slice A n c, .slice (some ⟨g, 0, none⟩) 2 2] W fun e V => e = .returned (.bool true) ∧ Below w.heap.size w V := by
  have hk : Ev.DotsAt W W.heap.size (some ⟨g, 0, none⟩) [(1, 1), (1, 2)] 2 2 := by
    refine dots_row rfl (by decide) (fun r hr => ?_) (by decide) (fun k x hx => ?_)
    · simp only [List.mem_cons, List.not_mem_nil, or_false] at hr
      rcases hr with rfl | rfl <;> exact ⟨by decide, by decide⟩
    · have h2 : k = 0 ∨ k = 1 := by have := (List.getElem?_eq_some_iff.1 hx).1; simp at this; omega
      rcases h2 with rfl | rfl
      · cases hx; exact ⟨c0, c1⟩
      · cases hx; exact ⟨c2, c3⟩
  refine (Dt.rsame_any W W.heap.size W.heap.size A (some ⟨g, 0, none⟩) [(1, 1), (1, 2)] [(1, 1), (1, 2)] n 2 c 2 hr.len rfl hr.dots hk.dots (Nat.le_trans hr.wide (by decide))).mono ?_
  rintro e V ⟨rfl, m, rfl⟩
  exact ⟨by rw [decide_eq_true rfl], Ev.bel_drewN hW m⟩
/-- the example's list. -/
theorem works_list (w : World) : Ev.EventsAt ((((w.alloc (.cells #[.int .u16 1, .int .u64 1] 28)).alloc (.cells #[.int .u16 1, .int .u64 2] 28)).alloc (.cells #[.int .u16 1, .int .u64 1] 28)).alloc (.cells #[.int .u16 1, .int .u64 1, .int .u8 1, .int .u64 5, .int .u8 1, .string ⟨#[]⟩, .slice none 0 0, .int .u16 1, .int .u64 2, .int .u8 1, .int .u64 5, .int .u8 1, .string ⟨#[]⟩, .slice (some ⟨w.heap.size + 1 + 1, 0, none⟩) 1 1] 30)) ((((w.alloc (.cells #[.int .u16 1, .int .u64 1] 28)).alloc (.cells #[.int .u16 1, .int .u64 2] 28)).alloc (.cells #[.int .u16 1, .int .u64 1] 28)).alloc (.cells #[.int .u16 1, .int .u64 1, .int .u8 1, .int .u64 5, .int .u8 1, .string ⟨#[]⟩, .slice none 0 0, .int .u16 1, .int .u64 2, .int .u8 1, .int .u64 5, .int .u8 1, .string ⟨#[]⟩, .slice (some ⟨w.heap.size + 1 + 1, 0, none⟩) 1 1] 30)).heap.size (some ⟨w.heap.size + 1 + 1 + 1, 0, none⟩) [worksA, worksB] 2 2 ∧ Below w.heap.size w ((((w.alloc (.cells #[.int .u16 1, .int .u64 1] 28)).alloc (.cells #[.int .u16 1, .int .u64 2] 28)).alloc (.cells #[.int .u16 1, .int .u64 1] 28)).alloc (.cells #[.int .u16 1, .int .u64 1, .int .u8 1, .int .u64 5, .int .u8 1, .string ⟨#[]⟩, .slice none 0 0, .int .u16 1, .int .u64 2, .int .u8 1, .int .u64 5, .int .u8 1, .string ⟨#[]⟩, .slice (some ⟨w.heap.size + 1 + 1, 0, none⟩) 1 1] 30)) ∧ ((((w.alloc (.cells #[.int .u16 1, .int .u64 1] 28)).alloc (.cells #[.int .u16 1, .int .u64 2] 28)).alloc (.cells #[.int .u16 1, .int .u64 1] 28)).alloc (.cells #[.int .u16 1, .int .u64 1, .int .u8 1, .int .u64 5, .int .u8 1, .string ⟨#[]⟩, .slice none 0 0, .int .u16 1, .int .u64 2, .int .u8 1, .int .u64 5, .int .u8 1, .string ⟨#[]⟩, .slice (some ⟨w.heap.size + 1 + 1, 0, none⟩) 1 1] 30)).cell? ⟨w.heap.size, 0, none⟩ = some (.int .u16 1) ∧ ((((w.alloc (.cells #[.int .u16 1, .int .u64 1] 28)).alloc (.cells #[.int .u16 1, .int .u64 2] 28)).alloc (.cells #[.int .u16 1, .int .u64 1] 28)).alloc (.cells #[.int .u16 1, .int .u64 1, .int .u8 1, .int .u64 5, .int .u8 1, .string ⟨#[]⟩, .slice none 0 0, .int .u16 1, .int .u64 2, .int .u8 1, .int .u64 5, .int .u8 1, .string ⟨#[]⟩, .slice (some ⟨w.heap.size + 1 + 1, 0, none⟩) 1 1] 30)).cell? ⟨w.heap.size, 1, none⟩ = some (.int .u64 1) ∧ ((((w.alloc (.cells #[.int .u16 1, .int .u64 1] 28)).alloc (.cells #[.int .u16 1, .int .u64 2] 28)).alloc (.cells #[.int .u16 1, .int .u64 1] 28)).alloc (.cells #[.int .u16 1, .int .u64 1, .int .u8 1, .int .u64 5, .int .u8 1, .string ⟨#[]⟩, .slice none 0 0, .int .u16 1, .int .u64 2, .int .u8 1, .int .u64 5, .int .u8 1, .string ⟨#[]⟩, .slice (some ⟨w.heap.size + 1 + 1, 0, none⟩) 1 1] 30)).cell? ⟨w.heap.size + 1, 0, none⟩ = some (.int .u16 1) ∧ ((((w.alloc (.cells #[.int .u16 1, .int .u64 1] 28)).alloc (.cells #[.int .u16 1, .int .u64 2] 28)).alloc (.cells #[.int .u16 1, .int .u64 1] 28)).alloc (.cells #[.int .u16 1, .int .u64 1, .int .u8 1, .int .u64 5, .int .u8 1, .string ⟨#[]⟩, .slice none 0 0, .int .u16 1, .int .u64 2, .int .u8 1, .int .u64 5, .int .u8 1, .string ⟨#[]⟩, .slice (some ⟨w.heap.size + 1 + 1, 0, none⟩) 1 1] 30)).cell? ⟨w.heap.size + 1, 1, none⟩ = some (.int .u64 2) := by
  have hk : Ev.DotsAt ((((w.alloc (.cells #[.int .u16 1, .int .u64 1] 28)).alloc (.cells #[.int .u16 1, .int .u64 2] 28)).alloc (.cells #[.int .u16 1, .int .u64 1] 28)).alloc (.cells #[.int .u16 1, .int .u64 1, .int .u8 1, .int .u64 5, .int .u8 1, .string ⟨#[]⟩, .slice none 0 0, .int .u16 1, .int .u64 2, .int .u8 1, .int .u64 5, .int .u8 1, .string ⟨#[]⟩, .slice (some ⟨w.heap.size + 1 + 1, 0, none⟩) 1 1] 30)) ((((w.alloc (.cells #[.int .u16 1, .int .u64 1] 28)).alloc (.cells #[.int .u16 1, .int .u64 2] 28)).alloc (.cells #[.int .u16 1, .int .u64 1] 28)).alloc (.cells #[.int .u16 1, .int .u64 1, .int .u8 1, .int .u64 5, .int .u8 1, .string ⟨#[]⟩, .slice none 0 0, .int .u16 1, .int .u64 2, .int .u8 1, .int .u64 5, .int .u8 1, .string ⟨#[]⟩, .slice (some ⟨w.heap.size + 1 + 1, 0, none⟩) 1 1] 30)).heap.size (some ⟨w.heap.size + 1 + 1, 0, none⟩) [(1, 1)] 1 1 := by
    refine dots_row rfl (by decide) (fun r hr => ?_) (by decide) (fun k x hx => ?_)
    · simp only [List.mem_cons, List.not_mem_nil, or_false] at hr
      rcases hr with rfl
      exact ⟨by decide, by decide⟩
    · have h2 : k = 0 := by have := (List.getElem?_eq_some_iff.1 hx).1; simp at this; omega
      subst h2
      cases hx
      constructor <;> simp [go_sem]
  refine ⟨⟨rfl, (fun e => by cases e), Nat.le_refl _, by decide, by decide, [⟨1, 1, 1, 5, 1, ⟨#[]⟩, none, 0, 0⟩, ⟨1, 2, 1, 5, 1, ⟨#[]⟩, some ⟨w.heap.size + 1 + 1, 0, none⟩, 1, 1⟩], ?_, rfl, fun k q y hq hy => ?_⟩, ?_, ?_, ?_, ?_, ?_⟩
  · have h := two_row (((w.alloc (.cells #[.int .u16 1, .int .u64 1] 28)).alloc (.cells #[.int .u16 1, .int .u64 2] 28)).alloc (.cells #[.int .u16 1, .int .u64 1] 28)) ⟨1, 1, 1, 5, 1, ⟨#[]⟩, none, 0, 0⟩ ⟨1, 2, 1, 5, 1, ⟨#[]⟩, some ⟨w.heap.size + 1 + 1, 0, none⟩, 1, 1⟩ (Nat.lt_succ_self _)
    rw [show (((w.alloc (.cells #[.int .u16 1, .int .u64 1] 28)).alloc (.cells #[.int .u16 1, .int .u64 2] 28)).alloc (.cells #[.int .u16 1, .int .u64 1] 28)).heap.size = w.heap.size + 1 + 1 + 1 by simp] at h
    rw [show ((((w.alloc (.cells #[.int .u16 1, .int .u64 1] 28)).alloc (.cells #[.int .u16 1, .int .u64 2] 28)).alloc (.cells #[.int .u16 1, .int .u64 1] 28)).alloc (.cells #[.int .u16 1, .int .u64 1, .int .u8 1, .int .u64 5, .int .u8 1, .string ⟨#[]⟩, .slice none 0 0, .int .u16 1, .int .u64 2, .int .u8 1, .int .u64 5, .int .u8 1, .string ⟨#[]⟩, .slice (some ⟨w.heap.size + 1 + 1, 0, none⟩) 1 1] 30)).heap.size = w.heap.size + 1 + 1 + 1 + 1 by simp]
    exact h
  · have hf : Ev.Fits worksA ∧ Ev.Fits worksB := ⟨⟨⟨by decide, by decide⟩, by decide, by decide, by decide, by unfold Ev.Short; decide⟩, ⟨⟨by decide, by decide⟩, by decide, by decide, by decide, by unfold Ev.Short; decide⟩⟩
    have h2 : k = 0 ∨ k = 1 := by have := (List.getElem?_eq_some_iff.1 hq).1; simp at this; omega
    rcases h2 with rfl | rfl
    · cases hq; cases hy
      exact ⟨rfl, rfl, rfl, rfl, rfl, rfl, hf.1, Ev.DotsAt.none_ _ _⟩
    · cases hq; cases hy
      exact ⟨rfl, rfl, rfl, rfl, rfl, rfl, hf.2, hk⟩
  · exact Ev.bel_alloc _ (Ev.bel_alloc _ (Ev.bel_alloc _ (Ev.bel_alloc _ (Below.refl _ _))))
  · simp [go_sem]
  · simp [go_sem]
  · simp [go_sem]
  · simp [go_sem]

set_option maxHeartbeats 8000000 in
/-- the chapter's example. -/
theorem works_any (P : PKl) (w : World) : Calls Tryz.prog 6 #[] w fun e w' => e = .returned (.bool true) ∧ Below w.heap.size w w' := by
  obtain ⟨hl, hb, k1, k2, k3, k4⟩ := works_list w
  have HL := Lib.hid hl
  have HB := Lib.hid hb
  clear hl hb
  go_enter Tryz.func6, Tryz.ntmps6
  go_upto_region 3 with fail
  generalize (((w.alloc (.cells #[.int .u16 1, .int .u64 1] 28)).alloc (.cells #[.int .u16 1, .int .u64 2] 28)).alloc (.cells #[.int .u16 1, .int .u64 1] 28)).alloc (.cells #[.int .u16 1, .int .u64 1, .int .u8 1, .int .u64 5, .int .u8 1, .string ⟨#[]⟩, .slice none 0 0, .int .u16 1, .int .u64 2, .int .u8 1, .int .u64 5, .int .u8 1, .string ⟨#[]⟩, .slice (some ⟨w.heap.size + 1 + 1, 0, none⟩) 1 1] 30) = w4 at *
  have CL := P.live w4 _ _ 2 2 HL.out (by decide) (fun x hx => by
    simp only [List.mem_cons, List.not_mem_nil, or_false] at hx
    rcases hx with rfl | rfl <;> decide)
  rw [works_live] at CL
  clear HL
  go_wp2_with fail
  refine CL.mono ?_
  rintro e w5 ⟨A, n, c, rfl, hx, hb5⟩
  obtain rfl : n = 1 := by have := hx.len; simpa using this.symm
  have HB5 := Lib.hid (HB.out.trans (hb5.mono HB.out.size))
  have HX := Lib.hid hx
  have j1 := Ev.stays hb5 k1
  have j2 := Ev.stays hb5 k2
  have j3 := Ev.stays hb5 k3
  have j4 := Ev.stays hb5 k4
  obtain ⟨ad, q, y, rfl, hB, hy, hq, cq⟩ := HX.out.at_ (k := 0) (by decide)
  obtain rfl : worksB = y := by simpa using hy
  have q1 : (q.dev : Int) = 1 := by rw [hq.dev]; rfl
  have q2 : (q.num : Int) = 2 := by rw [hq.num]; rfl
  have had : ad.add (0 * 7) = ad := by rw [Nat.zero_mul]; rfl
  have c0 := cq.c0
  have c1 := cq.c1
  rw [q1, had] at c0
  rw [q2, had] at c1
  have HK : Hid (∀ V, Below w5.heap.size w5 V → V.cell? ad = some (.int .u16 1) ∧ V.cell? ⟨ad.block, ad.off + 1, none⟩ = some (.int .u64 2) ∧ V.cell? ⟨w.heap.size, 0, none⟩ = some (.int .u16 1) ∧ V.cell? ⟨w.heap.size, 1, none⟩ = some (.int .u64 1) ∧ V.cell? ⟨w.heap.size + 1, 0, none⟩ = some (.int .u16 1) ∧ V.cell? ⟨w.heap.size + 1, 1, none⟩ = some (.int .u64 2)) := Lib.hid (fun V hV => ⟨Ev.stays hV c0, Ev.stays hV c1, Ev.stays hV j1, Ev.stays hV j2, Ev.stays hV j3, Ev.stays hV j4⟩)
  have LE : ∀ W, Below w5.heap.size w5 W → Calls Tryz.prog 18 #[.slice (some ad) 1 c, .int .u64 5, .int .u8 1] W fun e V => ∃ A n c, e = .returned (.slice A n c) ∧ Ev.DotsAt V V.heap.size A [(1, 1), (1, 2)] n c ∧ Below w5.heap.size w5 V ∧ Below W.heap.size W V := fun W hW => by
    refine (P.edit W (some ad) [worksB] 1 c 5 1 (HX.out.up hW) (by decide) (fun x hx => by
      simp only [List.mem_cons, List.not_mem_nil, or_false] at hx
      subst hx; decide) (by decide) (by decide)).mono ?_
    rintro e V ⟨A, n, c, rfl, h1, h3⟩
    rw [works_dots] at h1
    exact ⟨A, n, c, rfl, h1, hW.trans (h3.mono hW.size), h3⟩
  have LS := fun W g A n c (hW : Below w5.heap.size w5 W) (hr : Ev.DotsAt W W.heap.size A [(1, 1), (1, 2)] n c) => @works_same w5 W g A n c hW hr
  have HS5 := HB5.out.size
  clear k1 k2 k3 k4 hx hb5 CL hq cq hy q1 q2 had c0 c1 j1 j2 j3 j4 HX
  generalize hb2 : w.heap.size + 1 = b2 at *
  generalize hb1 : w.heap.size = b1 at *
  clear hb2
  obtain ⟨c0, c1, j1, j2, j3, j4⟩ := HK.out w5 (Below.refl _ _)
  go_wp2_with fail
  go_region_held3 (fun V => V.cell? ad = some (.int .u16 1) ∧ V.cell? ⟨ad.block, ad.off + 1, none⟩ = some (.int .u64 2) ∧ V.cell? ⟨b1, 0, none⟩ = some (.int .u16 1) ∧ V.cell? ⟨b1, 1, none⟩ = some (.int .u64 1) ∧ V.cell? ⟨b2, 0, none⟩ = some (.int .u16 1) ∧ V.cell? ⟨b2, 1, none⟩ = some (.int .u64 2)) (first | assumption | ((with_reducible refine HK.out _ ?_); (repeat (first | (with_reducible exact Below.refl _ _) | (with_reducible assumption) | (with_reducible apply Ev.bel_drew) | (with_reducible apply Ev.bel_alloc))); done) | go_keep) (first
    | (go_at_call 18; (with_reducible refine (LE _ ?_).mono ?_); (repeat (first | exact Below.refl _ _ | assumption | apply Ev.bel_drew | apply Ev.bel_alloc)); rintro e V ⟨A, n, c, rfl, hr, bv, bw⟩; have hcV := HK.out V bv; (try ((refine cutp (p := Row2 V (w5.heap.size)) ?_ (fun za => ?_)); (focus ((with_reducible refine Row2.kept bw ?_); (refine ⟨?_, ?_, ?_, ?_⟩ <;> (simp [go_sem]; done)))); obtain ⟨za0, za1, za2, za3⟩ := za)))
    | (go_at_call 10; ((with_reducible refine (LS _ _ _ _ _ ?_ ?_ ?_ ?_ ?_ ?_).mono ?_) <;> first | ((show Below _ _ _); (repeat (first | (with_reducible exact Below.refl _ _) | (with_reducible assumption) | (with_reducible apply Ev.bel_drew) | (with_reducible apply Ev.bel_alloc))); done) | ((show Ev.DotsAt _ _ _ _ _ _); (with_reducible refine hr.up ?_); (repeat (first | (with_reducible exact Below.refl _ _) | (with_reducible assumption) | (with_reducible apply Ev.bel_drew) | (with_reducible apply Ev.bel_alloc))); done) | ((show World.cell? _ _ = some _); first | (with_reducible assumption) | (simp [go_sem]; done)) | skip); rintro e V2 ⟨rfl, bv2⟩; have hcV2 := HK.out V2 bv2))
  all_goals
    go_wp2
    go_ret
    exact ⟨rfl, by rw [hb1]; exact HB5.out.trans (bv2.mono HS5)⟩
end Go.Proofs.YtmebokpgiehgmaaGreat.Kl

/- What the frames of layer kills' laws share: a dot, a list of dots, a context that came in, as the walks take them. No condition. -/
namespace Go.Proofs.YtmebokpgiehgmaaGreat.Cx
open Go.ChangeShapes Go.WideShapes Go.ChangeAt Go.RowKit Go.Deep Go.Joins
set_option linter.unusedVariables false
set_option maxRecDepth 4000

/-- a slice of dots, that lies in this world. -/
structure DotsIn (w : World) (A : Option Addr) (l : List Dot) (n c : Nat) : Prop where
  len : l.length = n
  nil : A = none → n = 0 ∧ c = 0
  cap : n ≤ c
  max : c ≤ 9223372036854775807
  dots : Dt.Dots w w.heap.size A l

theorem own : ownKnob Tryz.prog.godebug = none := by kernel_rfl
theorem laidOut : laidOutB Tryz.prog = true := by kernel_rfl
theorem cells16 : Tryz.prog.cellsOf 25 = 1 := by kernel_rfl
theorem cells64 : Tryz.prog.cellsOf 26 = 1 := by kernel_rfl
theorem cellsRs : Tryz.prog.cellsOf 42 = 1 := by kernel_rfl
theorem cellsR : Tryz.prog.cellsOf 50 = 2 := by kernel_rfl
theorem cellsD : Tryz.prog.cellsOf 28 = 2 := by kernel_rfl
theorem cellsP : Tryz.prog.cellsOf 44 = 2 := by kernel_rfl
theorem wf_u64 {n : Int} (h : (Lit.int .u64 n).wf = true) : ∃ s : Nat, n = (s : Int) ∧ s < 18446744073709551616 := by
  simp [Lit.wf, IntKind.min, IntKind.max, IntKind.bits, IntKind.signed] at h
  exact ⟨n.toNat, by omega, by omega⟩
theorem wf_u16 {n : Int} (h : (Lit.int .u16 n).wf = true) : ∃ s : Nat, n = (s : Int) ∧ s < 65536 := by
  simp [Lit.wf, IntKind.min, IntKind.max, IntKind.bits, IntKind.signed] at h
  exact ⟨n.toNat, by omega, by omega⟩
theorem wf_u8 {n : Int} (h : (Lit.int .u8 n).wf = true) : ∃ s : Nat, n = (s : Int) ∧ s < 256 := by
  simp [Lit.wf, IntKind.min, IntKind.max, IntKind.bits, IntKind.signed] at h
  exact ⟨n.toNat, by omega, by omega⟩
/-- a dot that came in; it reads as it did in every world. -/
theorem dot_of {H : Type} {enc : TypeId × Value → H} {W : World} {b0 : Nat} {v : Value} {d : DataW H} {p : List MemPlace} (hv : Value.okWide Tryz.prog W .any b0 28 v) (h : DataW.Trod enc Tryz.prog W 0 (fun _ => true) true 28 v d p) :
    ∃ r : Dot, v = .agg #[.int .u16 (r.1 : Int), .int .u64 (r.2 : Int)] ∧ r.1 < 65536 ∧ r.2 < 18446744073709551616 ∧ p = [] ∧ ∀ (W' : World) (sp : Nat → Bool), DataW.Trod enc Tryz.prog W' 0 sp true 28 v d p := by
  obtain ⟨c0, c1, y0, y1, m, rfl, rfl, rfl, hy0, hy1⟩ := open_agg2 Tryz.underlying28 (by kernel_rfl) cellsD hv h
  obtain ⟨a, e0, rfl, wa⟩ := DataW.trod_int Tryz.underlying25 hy0
  obtain ⟨b, e1, rfl, wb⟩ := DataW.trod_int Tryz.underlying26 hy1
  simp at e0 e1
  subst e0 e1
  have wa' := wa
  have wb' := wb
  obtain ⟨s, rfl, hs⟩ := wf_u16 wa
  obtain ⟨t, rfl, ht⟩ := wf_u64 wb
  exact ⟨(s, t), rfl, hs, ht, rfl, fun W' sp =>
    shut_agg2 (y0 := (.lit (.int .u16 (s : Int)), [])) (y1 := (.lit (.int .u64 (t : Int)), [])) Tryz.underlying28 (by kernel_rfl) cellsD ⟨1, by simp [DataW.trod, Tryz.underlying25, wa']⟩ ⟨1, by simp [DataW.trod, Tryz.underlying26, wb']⟩⟩
theorem list_of {α : Type} {Q : Nat → α → Prop} (n : Nat) (h : ∀ i, i < n → ∃ t, Q i t) : ∃ L : List α, L.length = n ∧ ∀ (i : Nat) (t : α), L[i]? = some t → Q i t := by
  induction n with
  | zero => exact ⟨[], rfl, fun i t hi => by simp at hi⟩
  | succ n ih =>
    obtain ⟨L, hL, hQ⟩ := ih (fun i hi => h i (by omega))
    obtain ⟨t, ht⟩ := h n (by omega)
    refine ⟨L ++ [t], by simp [hL], fun i u hu => ?_⟩
    rcases Nat.lt_or_ge i n with hi | hi
    · rw [List.getElem?_append_left (by omega)] at hu
      exact hQ i u hu
    · rw [List.getElem?_append_right (by omega), hL] at hu
      have e : i = n := by
        rcases Nat.eq_or_lt_of_le hi with e | e
        · exact e.symm
        · rw [List.getElem?_eq_none (by simp; omega)] at hu; cases hu
      subst e
      simp at hu
      subst hu
      exact ht
/-- rows of two cells. -/
theorem lies_two {α : Type} {w : World} {B : Nat} {ad : Addr} (hB : ad.block < B) (f g : α → Value) (L : List α) (h : ∀ (i : Nat) (r : α), L[i]? = some r → w.cell? (ad.add (i * 2)) = some (f r) ∧ w.cell? (ad.add (i * 2 + 1)) = some (g r)) : Dt.Lies w B (some ad) (L.flatMap fun r => [f r, g r]) := fun _ => by
  have len : ∀ L : List α, (L.flatMap fun r => [f r, g r]).length = L.length * 2 := fun L => by
    induction L with
    | nil => rfl
    | cons r L ih => simp only [List.flatMap_cons, List.length_append, List.length_cons, List.length_nil, ih]; omega
  have get : ∀ (L : List α) (k : Nat) (r : α), L[k]? = some r → (L.flatMap fun r => [f r, g r])[k * 2]? = some (f r) ∧ (L.flatMap fun r => [f r, g r])[k * 2 + 1]? = some (g r) := fun L => by
    induction L with
    | nil => intro k r h; simp at h
    | cons x L ih =>
      intro k r h
      cases k with
      | zero => obtain rfl : x = r := by simpa using h
                exact ⟨rfl, rfl⟩
      | succ k =>
        have h2 := ih k r (by simpa using h)
        have e : (x :: L).flatMap (fun r => [f r, g r]) = f x :: g x :: L.flatMap (fun r => [f r, g r]) := rfl
        have e1 : (k + 1) * 2 = k * 2 + 2 := by omega
        rw [e, e1]
        exact ⟨by simpa using h2.1, by simpa using h2.2⟩
  refine ⟨ad, rfl, hB, fun j u hu => ?_⟩
  have hj : j < (L.flatMap fun r => [f r, g r]).length := (List.getElem?_eq_some_iff.1 hu).1
  rw [len] at hj
  have hd : j / 2 < L.length := by omega
  have hg := List.getElem?_eq_getElem hd
  obtain ⟨g1, g2⟩ := get L _ _ hg
  obtain ⟨c1, c2⟩ := h _ _ hg
  rcases Nat.mod_two_eq_zero_or_one j with h0 | h0
  · have e : j = j / 2 * 2 := by omega
    rw [e] at hu ⊢
    rw [g1] at hu
    cases hu
    exact c1
  · have e : j = j / 2 * 2 + 1 := by omega
    generalize hz : j / 2 = z at *
    subst e
    rw [g2] at hu
    cases hu
    exact c2
/-- a list of dots that came in. -/
theorem dots_of {H : Type} {enc : TypeId × Value → H} {W : World} {a : Option Addr} {len cap : Nat} {d : DataW H} {p : List MemPlace} (h : DataW.Trod enc Tryz.prog W 0 (fun _ => true) true 22 (.slice a len cap) d p) :
    ∃ l : List Dot, DotsIn W a l len cap := by
  obtain ⟨fuel, hf⟩ := h
  rcases open_slice_pairs Tryz.underlying22 Tryz.underlying28 cellsD rfl rfl cells16 cells64 hf with ⟨hcs, _⟩ | ⟨x, n0, c0, m, f0, V0, V1, D0, D1, P0, P1, hcs, hb, hl, hm, hmm, hx, hi⟩
  · simp [Value.cells] at hcs
    obtain ⟨rfl, rfl, rfl⟩ := hcs
    exact ⟨[], rfl, fun _ => ⟨rfl, rfl⟩, Nat.le_refl _, by omega, Dt.Dots.none_ _ _ _⟩
  · simp [Value.cells] at hcs
    obtain ⟨rfl, rfl, rfl⟩ := hcs
    unfold maxLen at hm
    have hmc : m = cap := by simpa using hmm
    have each : ∀ i, i < len → ∃ r : Dot, (r.1 < 65536 ∧ r.2 < 18446744073709551616) ∧ W.cell? (x.add (i * 2)) = some (.int .u16 (r.1 : Int)) ∧ W.cell? (x.add (i * 2 + 1)) = some (.int .u64 (r.2 : Int)) := by
      intro i hil
      obtain ⟨h0, h1, t0, t1⟩ := hi i (by omega)
      obtain ⟨z0, e0, _, w0⟩ := DataW.trod_int Tryz.underlying25 t0
      obtain ⟨z1, e1, _, w1⟩ := DataW.trod_int Tryz.underlying26 t1
      obtain ⟨s0, rfl, hs0⟩ := wf_u16 w0
      obtain ⟨s1, rfl, hs1⟩ := wf_u64 w1
      rw [(List.cons.inj e0).1] at h0
      rw [(List.cons.inj e1).1] at h1
      exact ⟨(s0, s1), ⟨hs0, hs1⟩, h0, h1⟩
    obtain ⟨L, hL, hQ⟩ := list_of len each
    refine ⟨L, hL, (fun e => by cases e), by omega, by omega, fun r hr => ?_, ?_⟩
    · obtain ⟨i, hi', rfl⟩ := List.getElem_of_mem hr
      exact (hQ i _ (List.getElem?_eq_getElem hi')).1
    · rcases Nat.eq_zero_or_pos L.length with h0 | h0
      · rw [List.eq_nil_of_length_eq_zero h0]; exact Dt.Lies.none_ _ _ _
      · refine lies_two ?_ (fun r : Dot => Value.int .u16 (r.1 : Int)) (fun r : Dot => Value.int .u64 (r.2 : Int)) L (fun i r hr => (hQ i r hr).2)
        have h1 := (hQ 0 _ (List.getElem?_eq_getElem h0)).2.1
        have h2 := World.block_lt_of_cell? W _ h1
        rwa [Dt.block_add] at h2
/-- what a slice's datum is as long as. -/
def Long {H : Type} (d : DataW H) (n : Nat) : Prop := n = 0 ∨ ∃ elems spare, d = .slice elems spare ∧ elems.length = n
/-- a slice of runs that stands in a cell. -/
theorem runs_cell {H : Type} {enc : TypeId × Value → H} {W : World} {fuel : Nat} {v : Value} {d : DataW H} {p : List MemPlace} (h : DataW.trod enc Tryz.prog W 0 (fun _ => true) true fuel 42 [v] = some (d, p)) :
    ∃ (A : Option Addr) (n c : Nat) (l : List Run), v = .slice A n c ∧ RunsAt W A l n c ∧ Long d n := by
  rcases open_slice_pairs Tryz.underlying42 Tryz.underlying50 cellsR rfl rfl cells64 cells64 h with ⟨hcs, _⟩ | ⟨x, n0, c0, m, f0, V0, V1, D0, D1, P0, P1, hcs, hb, hl, hm, hmm, hx, hi⟩
  · obtain rfl := (List.cons.inj hcs).1
    exact ⟨none, 0, 0, [], rfl, ⟨rfl, fun _ => ⟨rfl, rfl⟩, Nat.le_refl _, by omega, Ru.Runs.none_ _ _ _⟩, .inl rfl⟩
  · obtain rfl := (List.cons.inj hcs).1
    unfold maxLen at hm
    have hmc : m = c0 := by simpa using hmm
    have each : ∀ i, i < n0 → ∃ r : Run, (r.1 < 18446744073709551616 ∧ r.2 < 18446744073709551616) ∧ W.cell? (x.add (i * 2)) = some (.int .u64 (r.1 : Int)) ∧ W.cell? (x.add (i * 2 + 1)) = some (.int .u64 (r.2 : Int)) := by
      intro i hil
      obtain ⟨h0, h1, t0, t1⟩ := hi i (by omega)
      obtain ⟨z0, e0, _, w0⟩ := DataW.trod_int Tryz.underlying26 t0
      obtain ⟨z1, e1, _, w1⟩ := DataW.trod_int Tryz.underlying26 t1
      obtain ⟨s0, rfl, hs0⟩ := wf_u64 w0
      obtain ⟨s1, rfl, hs1⟩ := wf_u64 w1
      rw [(List.cons.inj e0).1] at h0
      rw [(List.cons.inj e1).1] at h1
      exact ⟨(s0, s1), ⟨hs0, hs1⟩, h0, h1⟩
    obtain ⟨L, hL, hQ⟩ := list_of n0 each
    simp only [Prod.mk.injEq] at hx
    refine ⟨some x, n0, c0, L, rfl, ⟨hL, (fun e => by cases e), by omega, by omega, fun r hr => ?_, ?_⟩, .inr ⟨_, _, hx.1, by simp⟩⟩
    · obtain ⟨i, hi', rfl⟩ := List.getElem_of_mem hr
      exact (hQ i _ (List.getElem?_eq_getElem hi')).1
    · rcases Nat.eq_zero_or_pos L.length with h0 | h0
      · rw [List.eq_nil_of_length_eq_zero h0]; exact Ru.Lies.none_ _ _ _
      · refine lies_two ?_ (fun r : Run => Value.int .u64 (r.1 : Int)) (fun r : Run => Value.int .u64 (r.2 : Int)) L (fun i r hr => (hQ i r hr).2)
        have h1 := (hQ 0 _ (List.getElem?_eq_getElem h0)).2.1
        have h2 := World.block_lt_of_cell? W _ h1
        rwa [Dt.block_add] at h2
/-- a context that came in, and how long its parts' data are. -/
theorem ctx_of {H : Type} {enc : TypeId × Value → H} {W : World} {a : Option Addr} {len cap : Nat} {d : DataW H} {p : List MemPlace} (h : DataW.Trod enc Tryz.prog W 0 (fun _ => true) true 24 (.slice a len cap) d p) :
    ∃ c : List Part, CtxAt W a c len cap ∧ (len = 0 ∨ ∃ (D0 D1 : Nat → DataW H) (spare : List (DataW H)), d = .slice ((List.range len).map fun i => .agg [D0 i, D1 i]) spare ∧ ∀ (i : Nat) (x : Part), c[i]? = some x → Long (D1 i) x.2.length) := by
  obtain ⟨fuel, hf⟩ := h
  rcases open_slice_pairs Tryz.underlying24 Tryz.underlying44 cellsP rfl rfl cells16 cellsRs hf with ⟨hcs, _⟩ | ⟨x, n0, c0, m, f0, V0, V1, D0, D1, P0, P1, hcs, hb, hl, hm, hmm, hx, hi⟩
  · simp [Value.cells] at hcs
    obtain ⟨rfl, rfl, rfl⟩ := hcs
    exact ⟨[], CtxAt.none_ W, .inl rfl⟩
  · simp [Value.cells] at hcs
    obtain ⟨rfl, rfl, rfl⟩ := hcs
    unfold maxLen at hm
    have hmc : m = cap := by simpa using hmm
    have each : ∀ i, i < len → ∃ r : PV × Part, PartIs W W.heap.size r.1 r.2 ∧ Long (D1 i) r.2.2.length ∧ W.cell? (x.add (i * 2)) = some (.int .u16 (r.1.dev : Int)) ∧ W.cell? (x.add (i * 2 + 1)) = some (.slice r.1.adr r.1.len r.1.cap) := by
      intro i hil
      obtain ⟨h0, h1, t0, t1⟩ := hi i (by omega)
      obtain ⟨z0, e0, _, w0⟩ := DataW.trod_int Tryz.underlying25 t0
      obtain ⟨s0, rfl, hs0⟩ := wf_u16 w0
      rw [(List.cons.inj e0).1] at h0
      obtain ⟨A, n, c, l, e1, hR, hLg⟩ := runs_cell t1
      rw [e1] at h1
      exact ⟨(⟨s0, A, n, c⟩, (s0, l)), ⟨rfl, hs0, hR.len, hR.nil, hR.cap, hR.max, hR.runs⟩, by show Long (D1 i) l.length; rw [hR.len]; exact hLg, h0, h1⟩
    obtain ⟨L, hL, hQ⟩ := list_of len each
    simp only [Prod.mk.injEq] at hx
    refine ⟨L.map (fun r => r.2), ⟨by rw [List.length_map, hL], (fun e => by cases e), by omega, by omega, L.map (fun r => r.1), ?_, by rw [List.length_map, List.length_map], ?_⟩, .inr ⟨D0, D1, _, hx.1, ?_⟩⟩
    · have e : cv (L.map (fun r => r.1)) = L.flatMap (fun r => [Value.int .u16 (r.1.dev : Int), .slice r.1.adr r.1.len r.1.cap]) := by
        unfold cv
        rw [List.flatMap_map]
      rw [e]
      rcases Nat.eq_zero_or_pos L.length with h0 | h0
      · rw [List.eq_nil_of_length_eq_zero h0]; exact Dt.Lies.none_ _ _ _
      · refine lies_two ?_ (fun r : PV × Part => Value.int .u16 (r.1.dev : Int)) (fun r : PV × Part => Value.slice r.1.adr r.1.len r.1.cap) L (fun i r hr => (hQ i r hr).2.2)
        have h1 := (hQ 0 _ (List.getElem?_eq_getElem h0)).2.2.1
        have h2 := World.block_lt_of_cell? W _ h1
        rwa [Dt.block_add] at h2
    · intro k p y hp hy
      rw [List.getElem?_map] at hp hy
      obtain ⟨r, hr, rfl⟩ := Option.map_eq_some_iff.1 hp
      rw [hr] at hy
      cases hy
      exact (hQ k r hr).1
    · intro i y hy
      rw [List.getElem?_map] at hy
      obtain ⟨r, hr, rfl⟩ := Option.map_eq_some_iff.1 hy
      exact (hQ i r hr).2.1
end Go.Proofs.YtmebokpgiehgmaaGreat.Cx
namespace Go.Proofs.YtmebokpgiehgmaaGreat.Kl
open Go.ChangeShapes Go.WideShapes Go.ChangeAt Go.RowKit Go.Deep Go.Joins
/-- dots that came in. -/
theorem dots_of {H : Type} {enc : TypeId × Value → H} {W : World} {a : Option Addr} {len cap : Nat} {d : DataW H} {p : List MemPlace} (h : DataW.Trod enc Tryz.prog W 0 (fun _ => true) true 22 (.slice a len cap) d p) (hz : Ev.Held 22 d) :
    ∃ l : List Dt.Dot, Ev.DotsAt W W.heap.size a l len cap := by
  obtain ⟨fuel, hf⟩ := h
  obtain ⟨A, n, c, l, e, hd, _⟩ := Ev.dots_cell (v := .slice a len cap) (by simpa [Value.cells] using hf) hz
  cases e
  exact ⟨l, hd⟩
end Go.Proofs.YtmebokpgiehgmaaGreat.Kl

/- KillsTells: the law's walk. -/
namespace Go.Proofs.YtmebokpgiehgmaaGreat.Kl
open Go.ChangeShapes Go.WideShapes Go.ChangeAt Go.RowKit
set_option linter.unusedVariables false
set_option maxRecDepth 4000

theorem few_all {l : List Ev.Evt} {m : Nat} (h : Ev.fewB l m = true) : l.length ≤ m ∧ ∀ x ∈ l, x.kills.length ≤ 300 := by
  unfold Ev.fewB at h
  rw [Bool.and_eq_true, decide_eq_true_iff, List.all_eq_true] at h
  refine ⟨h.1, fun x hx => ?_⟩
  have h2 := h.2 x hx
  unfold Ev.fewE at h2
  rw [Bool.and_eq_true, decide_eq_true_iff] at h2
  exact h2.1
theorem later {f : FuncId} {args : Array Value} {w W : World} {v : Value} (hW : Below w.heap.size w W) (h : Calls Tryz.prog f args W fun e V => e = .returned v ∧ Below W.heap.size W V) :
    Calls Tryz.prog f args W fun e V => e = .returned v ∧ Below w.heap.size w V := h.mono fun e V ⟨h1, h2⟩ => ⟨h1, hW.trans (h2.mono hW.size)⟩
theorem later_dots {f : FuncId} {args : Array Value} {w W : World} {l : List Dt.Dot} (hW : Below w.heap.size w W) (h : Calls Tryz.prog f args W (Ev.DPost W l)) :
    Calls Tryz.prog f args W fun e V => ∃ A n c, e = .returned (.slice A n c) ∧ Ev.DotsAt V V.heap.size A l n c ∧ Below w.heap.size w V ∧ Below W.heap.size W V := h.mono fun e V ⟨A, n, c, h1, h2, h3⟩ => ⟨A, n, c, h1, h2, hW.trans (h3.mono hW.size), h3⟩
theorem later_evts {f : FuncId} {args : Array Value} {w W : World} {l : List Ev.Evt} (hW : Below w.heap.size w W) (h : Calls Tryz.prog f args W (Ev.EvPost W l)) :
    Calls Tryz.prog f args W fun e V => ∃ A n c, e = .returned (.slice A n c) ∧ Ev.EventsAt V V.heap.size A l n c ∧ Below w.heap.size w V ∧ Below W.heap.size W V := h.mono fun e V ⟨A, n, c, h1, h2, h3⟩ => ⟨A, n, c, h1, h2, hW.trans (h3.mono hW.size), h3⟩
theorem same_dots {w W : World} {A A' : Option Addr} {l : List Dt.Dot} {n n' c c' : Nat} (hW : Below w.heap.size w W) (h1 : Ev.DotsAt W W.heap.size A l n c) (h2 : Ev.DotsAt W W.heap.size A' l n' c') :
    Calls Tryz.prog 10 #[.slice A n c, .slice A' n' c'] W fun e V => e = .returned (.bool true) ∧ Below w.heap.size w V :=
  (Dt.rsame_any W W.heap.size W.heap.size A A' l l n n' c c' h1.len h2.len h1.dots h2.dots (Nat.le_trans h1.wide (by decide))).mono fun e V ⟨h3, m, h4⟩ => ⟨by rw [h3, decide_eq_true rfl], by rw [h4]; exact Ev.bel_drewN hW m⟩
end Go.Proofs.YtmebokpgiehgmaaGreat.Kl

/- The contracts of the document's Keep, Drop and Strip of layer kills. For every list of at most 2^40 dots and every context that is small. -/
namespace Go.Proofs.YtmebokpgiehgmaaGreat.Kl
open Go.ChangeShapes Go.WideShapes Go.ChangeAt Go.RowKit
set_option linter.unusedVariables false
set_option maxRecDepth 4000

theorem puts_len (l m : List Dt.Dot) : (l.foldl Dt.putD m).length ≤ m.length + l.length := by
  induction l generalizing m with
  | nil => exact Nat.le_refl _
  | cons x l ih =>
    have h1 := ih (Dt.putD m x)
    have h2 := Dt.put_length m x
    rw [List.foldl_cons, List.length_cons]
    omega
def keepTo (f : Dt.Dot → Bool) (l : List Dt.Dot) (k : Nat) : List Dt.Dot := Dt.sortD ((l.take k).filter f)
theorem keep_len (f : Dt.Dot → Bool) (l : List Dt.Dot) (k : Nat) : (keepTo f l k).length ≤ k := by
  have h1 := puts_len ((l.take k).filter f) []
  have h2 := List.length_filter_le f (l.take k)
  have h3 := List.length_take_le k l
  show (((l.take k).filter f).foldl Dt.putD []).length ≤ k
  simp only [List.length_nil] at h1
  omega
theorem keep_skip {f : Dt.Dot → Bool} {l : List Dt.Dot} {k : Nat} {d : Dt.Dot} (h : l[k]? = some d) (hf : f d = false) : keepTo f l (k + 1) = keepTo f l k := by
  unfold keepTo
  rw [Ev.take_one h, List.filter_append]
  simp [hf]
theorem keep_take {f : Dt.Dot → Bool} {l : List Dt.Dot} {k : Nat} {d : Dt.Dot} (h : l[k]? = some d) (hf : f d = true) : keepTo f l (k + 1) = Dt.putD (keepTo f l k) d := by
  unfold keepTo Dt.sortD
  rw [Ev.take_one h, List.filter_append, List.foldl_append]
  simp [hf]
theorem keep_all {f : Dt.Dot → Bool} {l : List Dt.Dot} {n : Nat} (h : l.length = n) : keepTo f l n = Dt.sortD (l.filter f) := by
  unfold keepTo
  rw [List.take_of_length_le (by rw [h]; exact Nat.le_refl _)]

set_option maxHeartbeats 4000000 in
theorem rkeep_any (w : World) (A0 A2 : Option Addr) (l : List Dt.Dot) (x : List Cx.Part) (n c0 n2 c2 : Nat) (hl : Ev.DotsAt w w.heap.size A0 l n c0) (hx : Cx.CtxAt w A2 x n2 c2) (hs : Cx.Small x) (hn : n ≤ 1099511627776) :
    Calls Tryz.prog 11 #[.slice A0 n c0, .slice A2 n2 c2] w (Ev.DPost w (Dt.sortD (l.filter (Cx.hasC x)))) := by
  have HL := Lib.hid hl
  have HX := Lib.hid hx
  have HSM := Lib.hid hs
  clear hl hx hs
  go_enter Tryz.func11, Tryz.ntmps11
  go_wp2_with fail
  go_loopw [5, 6] (fun v i wr => ∃ (k m : Nat) (A : Option Addr) (c : Nat), k ≤ n ∧ i = .int .i64 (k : Int) ∧ v = .slice A m c ∧ Ev.DotsAt wr wr.heap.size A (keepTo (Cx.hasC x) l k) m c ∧ Below w.heap.size w wr) (fun _ i _ => n - (intOf i).toNat)
  case atStart => exact ⟨0, 0, none, 0, Nat.zero_le _, rfl, rfl, Ev.DotsAt.none_ _ _, Below.refl _ _⟩
  case round =>
    obtain ⟨k, m, A, c, hk, rfl, rfl, ho, hw⟩ := hrel
    have HO := Lib.hid ho
    have HW := Lib.hid hw
    clear ho hw
    by_cases hlt : k < n
    · obtain ⟨ad, x1, x2, rfl, hlx, hx1, hx2, c1, c3⟩ := HL.out.dots.at_ (k := k) (by rw [HL.out.len]; exact hlt)
      have c3' : w.cell? ⟨(ad.add (k * 2)).block, (ad.add (k * 2)).off + 1, none⟩ = some (.int .u64 (x2 : Int)) := by rw [Dt.add_next]; exact c3
      have HC : Hid (∀ V, Below w.heap.size w V → V.cell? (ad.add (k * 2)) = some (.int .u16 (x1 : Int)) ∧ V.cell? ⟨(ad.add (k * 2)).block, (ad.add (k * 2)).off + 1, none⟩ = some (.int .u64 (x2 : Int))) := Lib.hid (fun V hV => ⟨Ev.stays hV c1, Ev.stays hV c3'⟩)
      have HKS := Lib.hid (fun h => keep_skip (f := (Cx.hasC x)) hlx h)
      have HKT := Lib.hid (fun h => keep_take (f := (Cx.hasC x)) hlx h)
      have hmk := keep_len (Cx.hasC x) l k
      rw [HO.out.len] at hmk
      have CH := Cx.rhas_any wr A2 x n2 c2 (x1, x2) (HX.out.up HW.out) HSM.out ⟨hx1, hx2⟩
      obtain ⟨y1, y2⟩ := HC.out wr HW.out
      clear hlx c1 c3 c3'
      cases hb : Cx.hasC x (x1, x2) with
      | false =>
        rw [hb] at CH
        have HN := Lib.hid (HKS.out (by simp [hb]))
        go_wp2_with fail
        refine CH.mono ?_
        rintro e V ⟨rfl, hbV⟩
        have HO3 := Lib.hid (HO.out.up hbV)
        have HW3 := Lib.hid (HW.out.trans (hbV.mono HW.out.size))
        clear CH hbV y1 y2 HO
        go_wp2
        go_roundw
        case rel => exact ⟨k + 1, m, A, c, by omega, by go_num, rfl, by rw [HN.out]; exact HO3.out, HW3.out⟩
        case measure => simp [intOf]; omega
      | true =>
        rw [hb] at CH
        have HN := Lib.hid (HKT.out (by simp [hb]))
        go_wp2_with fail
        refine CH.mono ?_
        rintro e V ⟨rfl, hbV⟩
        have HO3 := Lib.hid (HO.out.up hbV)
        have HW3 := Lib.hid (HW.out.trans (hbV.mono HW.out.size))
        have CP := Ev.rputd_any V A (keepTo (Cx.hasC x) l k) m c (x1, x2) HO3.out ⟨hx1, hx2⟩ (by omega)
        clear CH hbV y1 y2 HO
        obtain ⟨y1, y2⟩ := HC.out V HW3.out
        go_wp2_with fail
        refine CP.mono ?_
        rintro e V4 ⟨A4, m4, c4, rfl, ho4, hb4⟩
        have HO4 := Lib.hid ho4
        have HW4 := Lib.hid (HW3.out.trans (hb4.mono HW3.out.size))
        clear CP ho4 hb4 y1 y2 HO3
        go_wp2
        go_roundw
        case rel => exact ⟨k + 1, m4, A4, c4, by omega, by go_num, rfl, by rw [HN.out]; exact HO4.out, HW4.out⟩
        case measure => simp [intOf]; omega
    · obtain rfl : k = n := by omega
      have HE := Lib.hid (keep_all (f := (Cx.hasC x)) HL.out.len)
      rw [HE.out] at HO
      go_wp2
      go_ret
      exact ⟨A, m, c, rfl, HO.out, HW.out⟩

set_option maxHeartbeats 4000000 in
theorem rdrop_any (w : World) (A0 A2 : Option Addr) (l : List Dt.Dot) (x : List Cx.Part) (n c0 n2 c2 : Nat) (hl : Ev.DotsAt w w.heap.size A0 l n c0) (hx : Cx.CtxAt w A2 x n2 c2) (hs : Cx.Small x) (hn : n ≤ 1099511627776) :
    Calls Tryz.prog 12 #[.slice A0 n c0, .slice A2 n2 c2] w (Ev.DPost w (Dt.sortD (l.filter (fun d => !Cx.hasC x d)))) := by
  have HL := Lib.hid hl
  have HX := Lib.hid hx
  have HSM := Lib.hid hs
  clear hl hx hs
  go_enter Tryz.func12, Tryz.ntmps12
  go_wp2_with fail
  go_loopw [5, 6] (fun v i wr => ∃ (k m : Nat) (A : Option Addr) (c : Nat), k ≤ n ∧ i = .int .i64 (k : Int) ∧ v = .slice A m c ∧ Ev.DotsAt wr wr.heap.size A (keepTo (fun d => !Cx.hasC x d) l k) m c ∧ Below w.heap.size w wr) (fun _ i _ => n - (intOf i).toNat)
  case atStart => exact ⟨0, 0, none, 0, Nat.zero_le _, rfl, rfl, Ev.DotsAt.none_ _ _, Below.refl _ _⟩
  case round =>
    obtain ⟨k, m, A, c, hk, rfl, rfl, ho, hw⟩ := hrel
    have HO := Lib.hid ho
    have HW := Lib.hid hw
    clear ho hw
    by_cases hlt : k < n
    · obtain ⟨ad, x1, x2, rfl, hlx, hx1, hx2, c1, c3⟩ := HL.out.dots.at_ (k := k) (by rw [HL.out.len]; exact hlt)
      have c3' : w.cell? ⟨(ad.add (k * 2)).block, (ad.add (k * 2)).off + 1, none⟩ = some (.int .u64 (x2 : Int)) := by rw [Dt.add_next]; exact c3
      have HC : Hid (∀ V, Below w.heap.size w V → V.cell? (ad.add (k * 2)) = some (.int .u16 (x1 : Int)) ∧ V.cell? ⟨(ad.add (k * 2)).block, (ad.add (k * 2)).off + 1, none⟩ = some (.int .u64 (x2 : Int))) := Lib.hid (fun V hV => ⟨Ev.stays hV c1, Ev.stays hV c3'⟩)
      have HKS := Lib.hid (fun h => keep_skip (f := (fun d => !Cx.hasC x d)) hlx h)
      have HKT := Lib.hid (fun h => keep_take (f := (fun d => !Cx.hasC x d)) hlx h)
      have hmk := keep_len (fun d => !Cx.hasC x d) l k
      rw [HO.out.len] at hmk
      have CH := Cx.rhas_any wr A2 x n2 c2 (x1, x2) (HX.out.up HW.out) HSM.out ⟨hx1, hx2⟩
      obtain ⟨y1, y2⟩ := HC.out wr HW.out
      clear hlx c1 c3 c3'
      cases hb : Cx.hasC x (x1, x2) with
      | true =>
        rw [hb] at CH
        have HN := Lib.hid (HKS.out (by simp [hb]))
        go_wp2_with fail
        refine CH.mono ?_
        rintro e V ⟨rfl, hbV⟩
        have HO3 := Lib.hid (HO.out.up hbV)
        have HW3 := Lib.hid (HW.out.trans (hbV.mono HW.out.size))
        clear CH hbV y1 y2 HO
        go_wp2
        go_roundw
        case rel => exact ⟨k + 1, m, A, c, by omega, by go_num, rfl, by rw [HN.out]; exact HO3.out, HW3.out⟩
        case measure => simp [intOf]; omega
      | false =>
        rw [hb] at CH
        have HN := Lib.hid (HKT.out (by simp [hb]))
        go_wp2_with fail
        refine CH.mono ?_
        rintro e V ⟨rfl, hbV⟩
        have HO3 := Lib.hid (HO.out.up hbV)
        have HW3 := Lib.hid (HW.out.trans (hbV.mono HW.out.size))
        have CP := Ev.rputd_any V A (keepTo (fun d => !Cx.hasC x d) l k) m c (x1, x2) HO3.out ⟨hx1, hx2⟩ (by omega)
        clear CH hbV y1 y2 HO
        obtain ⟨y1, y2⟩ := HC.out V HW3.out
        go_wp2_with fail
        refine CP.mono ?_
        rintro e V4 ⟨A4, m4, c4, rfl, ho4, hb4⟩
        have HO4 := Lib.hid ho4
        have HW4 := Lib.hid (HW3.out.trans (hb4.mono HW3.out.size))
        clear CP ho4 hb4 y1 y2 HO3
        go_wp2
        go_roundw
        case rel => exact ⟨k + 1, m4, A4, c4, by omega, by go_num, rfl, by rw [HN.out]; exact HO4.out, HW4.out⟩
        case measure => simp [intOf]; omega
    · obtain rfl : k = n := by omega
      have HE := Lib.hid (keep_all (f := (fun d => !Cx.hasC x d)) HL.out.len)
      rw [HE.out] at HO
      go_wp2
      go_ret
      exact ⟨A, m, c, rfl, HO.out, HW.out⟩

theorem box_ev (w V : World) (q : Ev.EV) (hb : Below (w.alloc q.box).heap.size (w.alloc q.box) V) : Ev.CellsAt V ⟨w.heap.size, 0, none⟩ q :=
  Ev.box_new w q V (by rw [Ev.alloc_size] at hb; exact hb)
end Go.Proofs.YtmebokpgiehgmaaGreat.Kl

/- The contract of the document's Strip of layer kills. For every event and every context that is small. -/
namespace Go.Proofs.YtmebokpgiehgmaaGreat.Kl
open Go.ChangeShapes Go.WideShapes Go.ChangeAt Go.RowKit
set_option linter.unusedVariables false
set_option maxRecDepth 4000

/-- block g is these cells, of the type t, and may be written. -/
def At (w : World) (g : Nat) (t : TypeId) (cs : Array Value) : Prop := w.heap[g]? = some (.cells cs t (0, 0))
theorem At.lt {w : World} {g : Nat} {t : TypeId} {cs : Array Value} (h : At w g t cs) : g < w.heap.size := by
  rcases Nat.lt_or_ge g w.heap.size with hl | hl
  · exact hl
  · unfold At at h; rw [Array.getElem?_eq_none hl] at h; cases h
theorem At.cell {w : World} {g : Nat} {t : TypeId} {cs : Array Value} (h : At w g t cs) (i : Nat) : w.cell? ⟨g, i, none⟩ = cs[i]? := cell_of_row w g i cs t (0, 0) h
theorem At.frozen {w : World} {g : Nat} {t : TypeId} {cs : Array Value} (h : At w g t cs) (i : Nat) : w.frozen? ⟨g, i, none⟩ = false := by
  unfold At at h
  simp [World.frozen?, h]
theorem At.new (w : World) (t : TypeId) (cs : Array Value) : At (w.alloc (.cells cs t)) w.heap.size t cs := heap_alloc_new w _
theorem At.below {w w' : World} {g B : Nat} {t : TypeId} {cs : Array Value} (h : At w g t cs) (hb : Below B w w') (hg : g < B) : At w' g t cs := (hb.block g hg).trans h
theorem At.set {w : World} {g : Nat} {t : TypeId} {cs : Array Value} (h : At w g t cs) (i : Nat) (u : Value) : At (w.setCell ⟨g, i, none⟩ u) g t (cs.setIfInBounds i u) := by
  unfold At at h ⊢
  simp [World.setCell, Array.getElem?_modify, h]
theorem At.other {w : World} {g h i : Nat} {t : TypeId} {cs : Array Value} (k : At w g t cs) (hne : g ≠ h) (u : Value) : At (w.setCell ⟨h, i, none⟩ u) g t cs := (Below.heap_setCell w ⟨h, i, none⟩ u g (fun e => hne e)).trans k
theorem bel_set {w V : World} {g i : Nat} (h : Below w.heap.size w V) (hg : w.heap.size ≤ g) (u : Value) : Below w.heap.size w (V.setCell ⟨g, i, none⟩ u) := h.setCell hg u
abbrev ebox (q : Ev.EV) : Array Value := #[.int .u16 (q.dev : Int), .int .u64 (q.num : Int), .int .u8 (q.kind : Int), .int .u64 (q.cid : Int), .int .u8 (q.fld : Int), .string q.txt, .slice q.adr q.len q.cap]
abbrev zcells : Array Value := #[.int .u16 0, .int .u64 0, .int .u8 0, .int .u64 0, .int .u8 0, .string ⟨#[]⟩, .slice none 0 0]
theorem ev_cells {V : World} {g : Nat} {q : Ev.EV} (h : At V g 30 (ebox q)) : V.cell? ⟨g, 0, none⟩ = some (.int .u16 (q.dev : Int)) ∧ V.cell? ⟨g, 1, none⟩ = some (.int .u64 (q.num : Int)) ∧ V.cell? ⟨g, 2, none⟩ = some (.int .u8 (q.kind : Int)) ∧ V.cell? ⟨g, 3, none⟩ = some (.int .u64 (q.cid : Int)) ∧ V.cell? ⟨g, 4, none⟩ = some (.int .u8 (q.fld : Int)) ∧ V.cell? ⟨g, 5, none⟩ = some (.string q.txt) ∧ V.cell? ⟨g, 6, none⟩ = some (.slice q.adr q.len q.cap) :=
  ⟨h.cell 0, h.cell 1, h.cell 2, h.cell 3, h.cell 4, h.cell 5, h.cell 6⟩
/-- an event without its kills. -/
theorem ev_bare {w : World} {B : Nat} {q : Ev.EV} {e : Ev.Evt} (h : Ev.EventIs w B q e) : Ev.EventIs w B ⟨q.dev, q.num, q.kind, q.cid, q.fld, q.txt, none, 0, 0⟩ ⟨e.dot, e.kind, e.cid, e.fld, e.txt, []⟩ :=
  ⟨h.dev, h.num, h.kind, h.cid, h.fld, h.txt, ⟨h.fits.dot, h.fits.kind, h.fits.cid, h.fits.fld, h.fits.txt⟩, Ev.DotsAt.none_ _ _⟩
/-- the result's cells, filled: what was made ahead of the call stays. -/
theorem strip_done {w V : World} (h : Below w.heap.size w V) (u0 u1 u2 u3 u4 u5 u6 : Value) : Below w.heap.size w (((((((V.setCell ⟨w.heap.size + 1, 0, none⟩ u0).setCell ⟨w.heap.size + 1, 1, none⟩ u1).setCell ⟨w.heap.size + 1, 2, none⟩ u2).setCell ⟨w.heap.size + 1, 3, none⟩ u3).setCell ⟨w.heap.size + 1, 4, none⟩ u4).setCell ⟨w.heap.size + 1, 5, none⟩ u5).setCell ⟨w.heap.size + 1, 6, none⟩ u6) :=
  bel_set (bel_set (bel_set (bel_set (bel_set (bel_set (bel_set h (Nat.le_succ _) u0) (Nat.le_succ _) u1) (Nat.le_succ _) u2) (Nat.le_succ _) u3) (Nat.le_succ _) u4) (Nat.le_succ _) u5) (Nat.le_succ _) u6

set_option maxHeartbeats 8000000 in
theorem rstrip_any (w : World) (A2 : Option Addr) (q : Ev.EV) (e : Ev.Evt) (x : List Cx.Part) (n2 c2 : Nat) (hq : Ev.EventIs w w.heap.size q e) (hx : Cx.CtxAt w A2 x n2 c2) (hs : Cx.Small x) :
    Calls Tryz.prog 16 #[q.val, .slice A2 n2 c2] w (OnePost w (stripE x e)) := by
  have hdot := Ev.is_dot hq
  have hfd := hq.fits.dot
  rw [hdot] at hfd
  have HS : Hid (stripE x e = if Cx.hasC x (q.dev, q.num) = true then ⟨e.dot, e.kind, e.cid, e.fld, e.txt, []⟩ else e) := Lib.hid (by unfold stripE; rw [hdot])
  have HQ := Lib.hid hq
  have HB := Lib.hid (Ev.bel_alloc (.cells zcells 30) (Ev.below_new w (.cells (ebox q) 30)))
  have HX := Lib.hid (hx.up HB.out)
  have R0 : Hid (At ((w.alloc (.cells (ebox q) 30)).alloc (.cells zcells 30)) w.heap.size 30 (ebox q)) := Lib.hid ((At.new w _ _).below (Ev.below_new _ _) (by simp))
  have R1 : Hid (At ((w.alloc (.cells (ebox q) 30)).alloc (.cells zcells 30)) (w.heap.size + 1) 30 zcells) := Lib.hid (by have h := At.new (w.alloc (.cells (ebox q) 30)) 30 zcells; rw [Ev.alloc_size] at h; exact h)
  have CH := Cx.rhas_any _ A2 x n2 c2 (q.dev, q.num) HX.out hs hfd
  simp only [Ev.EV.val]
  obtain ⟨v, hv⟩ : ∃ v, stripE x e = v := ⟨_, rfl⟩
  rw [hv] at HS ⊢
  clear hq hx hs hdot hfd hv HX
  go_enter Tryz.func16, Tryz.ntmps16
  go_upto_region 1 with fail
  generalize (w.alloc (.cells (ebox q) 30)).alloc (.cells zcells 30) = w2 at *
  obtain ⟨x0, x1, x2, x3, x4, x5, x6⟩ := ev_cells R0.out
  have hlt0 := R0.out.lt
  have hlt1 := R1.out.lt
  cases hb : Cx.hasC x (q.dev, q.num) with
  | true =>
    rw [hb] at CH
    have HV : Hid (v = ⟨e.dot, e.kind, e.cid, e.fld, e.txt, []⟩) := Lib.hid (by rw [HS.out, hb, if_pos rfl])
    go_wp2_with fail
    refine CH.mono ?_
    rintro r V ⟨rfl, hbV⟩
    have S0 := Lib.hid (R0.out.below hbV hlt0)
    have S1 := Lib.hid (R1.out.below hbV hlt1)
    have HW := Lib.hid (HB.out.trans (hbV.mono HB.out.size))
    clear x0 x1 x2 x3 x4 x5 x6 CH hbV R0 R1 HB
    have t6 := S0.out.cell 6
    have g6 := S0.out.frozen 6
    simp at t6
    have W0 : Hid (At (V.setCell ⟨w.heap.size, 6, none⟩ (.slice none 0 0)) w.heap.size 30 (ebox ⟨q.dev, q.num, q.kind, q.cid, q.fld, q.txt, none, 0, 0⟩)) := Lib.hid (S0.out.set 6 (.slice none 0 0))
    have W1 : Hid (At (V.setCell ⟨w.heap.size, 6, none⟩ (.slice none 0 0)) (w.heap.size + 1) 30 zcells) := Lib.hid (S1.out.other (by omega) (.slice none 0 0))
    have HW1 : Hid (Below w.heap.size w (V.setCell ⟨w.heap.size, 6, none⟩ (.slice none 0 0))) := Lib.hid (bel_set HW.out (Nat.le_refl _) _)
    clear S0 S1 HW
    go_upto_region 3 with fail
    generalize V.setCell ⟨w.heap.size, 6, none⟩ (.slice none 0 0) = V1 at *
    clear t6 g6
    obtain ⟨x0, x1, x2, x3, x4, x5, x6⟩ := ev_cells W0.out
    have Q1 := W1.out.set 0 (.int .u16 (q.dev : Int))
    have Q2 := Q1.set 1 (.int .u64 (q.num : Int))
    have Q3 := Q2.set 2 (.int .u8 (q.kind : Int))
    have Q4 := Q3.set 3 (.int .u64 (q.cid : Int))
    have Q5 := Q4.set 4 (.int .u8 (q.fld : Int))
    have Q6 := Q5.set 5 (.string q.txt)
    have Q7 := Q6.set 6 (.slice none 0 0)
    have z0 := W1.out.cell 0
    have f0 := W1.out.frozen 0
    have z1 := Q1.cell 1
    have f1 := Q1.frozen 1
    have z2 := Q2.cell 2
    have f2 := Q2.frozen 2
    have z3 := Q3.cell 3
    have f3 := Q3.frozen 3
    have z4 := Q4.cell 4
    have f4 := Q4.frozen 4
    have z5 := Q5.cell 5
    have f5 := Q5.frozen 5
    have z6 := Q6.cell 6
    have f6 := Q6.frozen 6
    have y0 := Q7.cell 0
    have y1 := Q7.cell 1
    have y2 := Q7.cell 2
    have y3 := Q7.cell 3
    have y4 := Q7.cell 4
    have y5 := Q7.cell 5
    have y6 := Q7.cell 6
    simp at z0 z1 z2 z3 z4 z5 z6 y0 y1 y2 y3 y4 y5 y6
    clear Q1 Q2 Q3 Q4 Q5 Q6 Q7
    have HF := Lib.hid (strip_done HW1.out (.int .u16 (q.dev : Int)) (.int .u64 (q.num : Int)) (.int .u8 (q.kind : Int)) (.int .u64 (q.cid : Int)) (.int .u8 (q.fld : Int)) (.string q.txt) (.slice none 0 0))
    go_wp2
    refine bodyPost_ret (v := Ev.EV.val ⟨q.dev, q.num, q.kind, q.cid, q.fld, q.txt, none, 0, 0⟩) ?_ rfl ?_
    · simp [results, Tryz.f16, go_sem, y0, y1, y2, y3, y4, y5, y6]
    · rw [HV.out]
      exact ⟨⟨q.dev, q.num, q.kind, q.cid, q.fld, q.txt, none, 0, 0⟩, rfl, ev_bare (HQ.out.up HF.out), HF.out⟩
  | false =>
    rw [hb] at CH
    have HV : Hid (v = e) := Lib.hid (by rw [HS.out, hb, if_neg (by simp)])
    go_wp2_with fail
    refine CH.mono ?_
    rintro r V ⟨rfl, hbV⟩
    have S0 := Lib.hid (R0.out.below hbV hlt0)
    have S1 := Lib.hid (R1.out.below hbV hlt1)
    have HW := Lib.hid (HB.out.trans (hbV.mono HB.out.size))
    clear x0 x1 x2 x3 x4 x5 x6 CH hbV R0 R1 HB
    obtain ⟨x0, x1, x2, x3, x4, x5, x6⟩ := ev_cells S0.out
    have Q1 := S1.out.set 0 (.int .u16 (q.dev : Int))
    have Q2 := Q1.set 1 (.int .u64 (q.num : Int))
    have Q3 := Q2.set 2 (.int .u8 (q.kind : Int))
    have Q4 := Q3.set 3 (.int .u64 (q.cid : Int))
    have Q5 := Q4.set 4 (.int .u8 (q.fld : Int))
    have Q6 := Q5.set 5 (.string q.txt)
    have Q7 := Q6.set 6 (.slice q.adr q.len q.cap)
    have z0 := S1.out.cell 0
    have f0 := S1.out.frozen 0
    have z1 := Q1.cell 1
    have f1 := Q1.frozen 1
    have z2 := Q2.cell 2
    have f2 := Q2.frozen 2
    have z3 := Q3.cell 3
    have f3 := Q3.frozen 3
    have z4 := Q4.cell 4
    have f4 := Q4.frozen 4
    have z5 := Q5.cell 5
    have f5 := Q5.frozen 5
    have z6 := Q6.cell 6
    have f6 := Q6.frozen 6
    have y0 := Q7.cell 0
    have y1 := Q7.cell 1
    have y2 := Q7.cell 2
    have y3 := Q7.cell 3
    have y4 := Q7.cell 4
    have y5 := Q7.cell 5
    have y6 := Q7.cell 6
    simp at z0 z1 z2 z3 z4 z5 z6 y0 y1 y2 y3 y4 y5 y6
    clear Q1 Q2 Q3 Q4 Q5 Q6 Q7
    have HF := Lib.hid (strip_done HW.out (.int .u16 (q.dev : Int)) (.int .u64 (q.num : Int)) (.int .u8 (q.kind : Int)) (.int .u64 (q.cid : Int)) (.int .u8 (q.fld : Int)) (.string q.txt) (.slice q.adr q.len q.cap))
    go_wp2
    refine bodyPost_ret (v := q.val) ?_ rfl ?_
    · simp [results, Tryz.f16, go_sem, y0, y1, y2, y3, y4, y5, y6]
    · rw [HV.out]
      exact ⟨q, rfl, HQ.out.up HF.out, HF.out⟩
end Go.Proofs.YtmebokpgiehgmaaGreat.Kl
