/- The contracts of the document's Lines, Same and All of layer card. For every list of lines, every card and every list of cards. -/
import Derived.Test.YtdmjhaifilfniaaKTexts
import Derived.StillTailTactics
namespace Go.Proofs.Ytdmjhaifilfniaa.Kd
open Go.ChangeShapes Go.WideShapes Go.ChangeAt Go.RowKit
set_option linter.unusedVariables false

theorem add_one (a : Addr) (n : Nat) : (⟨(a.add n).block, (a.add n).off + 1, none⟩ : Addr) = a.add (n + 1) := Dt.add_next a n
theorem add_two (a : Addr) (n : Nat) : (⟨(a.add n).block, (a.add n).off + 2, none⟩ : Addr) = a.add (n + 2) := by
  have h1 := Dt.add_next a n
  have h2 := Dt.add_next a (n + 1)
  rw [← h2, ← h1]
/-- what stands at a place, as a walk reads it. -/
theorem LinesAt.line {w : World} {B : Nat} {A : Option Addr} {c : List Ln} {n cp : Nat} (h : LinesAt w B A c n cp) {k : Nat} (hk : k < n) :
    ∃ (ad : Addr) (p : LV) (x : Ln), A = some ad ∧ ad.block < B ∧ c[k]? = some x ∧ LineIs w B p x ∧
      w.cell? (ad.add (k * 3)) = some (.int .u8 (x.1 : Int)) ∧ w.cell? ⟨(ad.add (k * 3)).block, (ad.add (k * 3)).off + 1, none⟩ = some (.string x.2.1) ∧ w.cell? ⟨(ad.add (k * 3)).block, (ad.add (k * 3)).off + 2, none⟩ = some (.slice p.adr p.len p.cap) := by
  obtain ⟨ad, p, x, e, hB, hx, hp, c1, c2, c3⟩ := h.cells hk
  exact ⟨ad, p, x, e, hB, hx, hp, c1, by rw [add_one]; exact c2, by rw [add_two]; exact c3⟩
theorem beq_nat {a b : Nat} (h : ¬ a = b) : ((a : Int) == (b : Int)) = false := by rw [beq_eq_false_iff_ne]; omega

set_option maxHeartbeats 8000000 in
theorem rlines_any (w : World) (B1 B2 : Nat) (A1 A2 : Option Addr) (l1 l2 : List Ln) (n1 n2 c1 c2 : Nat) (h1 : LinesAt w B1 A1 l1 n1 c1) (h2 : LinesAt w B2 A2 l2 n2 c2) :
    Calls Try.prog 11 #[.slice A1 n1 c1, .slice A2 n2 c2] w fun e w' => e = .returned (.bool (decide (l1 = l2))) ∧ ∃ m, w' = w.drewN m := by
  have H1 := Lib.hid h1
  have H2 := Lib.hid h2
  have h63 : n1 ≤ 281474976710656 := Nat.le_trans h1.wide (by decide)
  clear h1 h2
  by_cases hn : n1 = n2
  · subst hn
    go_enter Try.func11, Try.ntmps11
    go_wp2
    go_loopw [5] (fun i wr => ∃ k : Nat, k ≤ n1 ∧ i = .int .i64 (k : Int) ∧ l1.take k = l2.take k ∧ ∃ m, wr = w.drewN m) (fun i _ => n1 - (intOf i).toNat)
    case atStart => exact ⟨0, Nat.zero_le _, rfl, by simp, 0, rfl⟩
    case round =>
      obtain ⟨k, hk, rfl, ht, hw⟩ := hrel
      have HT := Lib.hid ht
      have HW := Lib.hid hw
      have HA1 : Hid (LinesAt wr B1 A1 l1 n1 c1) := Lib.hid (by obtain ⟨m, rfl⟩ := hw; exact H1.out.below (below_drewN _ _ _))
      have HA2 : Hid (LinesAt wr B2 A2 l2 n1 c2) := Lib.hid (by obtain ⟨m, rfl⟩ := hw; exact H2.out.below (below_drewN _ _ _))
      clear ht hw
      by_cases hlt : k < n1
      · obtain ⟨a1, p, x, rfl, _, hlx, hp, c11, c12, c13⟩ := HA1.out.line hlt
        obtain ⟨a2, q, y, rfl, _, hly, hq, c21, c22, c23⟩ := HA2.out.line hlt
        have CT := fun n => rtexts_any (wr.drewN n) B1 B2 p.adr q.adr x.2.2 y.2.2 p.len q.len p.cap q.cap (hp.more.below (below_drewN _ _ _)) (hq.more.below (below_drewN _ _ _))
        have hs := eq_texts x.2.1 y.2.1
        obtain ⟨x1, x2, x3⟩ := x
        obtain ⟨y1, y2, y3⟩ := y
        simp only at c11 c12 c13 c21 c22 c23 CT hs
        clear hp hq
        by_cases hxy : (x1, x2, x3) = (y1, y2, y3)
        · have HS := Lib.hid (take_more HT.out hlx (by rw [hly, hxy]))
          cases hxy
          rw [decide_eq_true rfl] at CT hs
          clear hlx hly
          go_wp2_with fail
          go_quiet ((go_at_call 8; exact Calls.quiet_of (CT _)))
          go_wp2
          go_roundw
          case rel => exact ⟨k + 1, by omega, by go_num, HS.out, drew_more HW.out _⟩
          case measure => simp [intOf]; omega
        · have hd : Hid (decide (l1 = l2) = false) := decide_eq_false (ne_at hlx hly hxy)
          clear hlx hly
          by_cases h1 : x1 = y1
          · subst h1
            by_cases h2 : x2 = y2
            · subst h2
              have h3 : ¬ x3 = y3 := fun e => hxy (by rw [e])
              rw [decide_eq_false h3] at CT
              clear h3 hxy
              go_wp2_with fail
              go_quiet ((go_at_call 8; exact Calls.quiet_of (CT _)))
              go_wp2
              go_ret
              exact ⟨ret_bool hd.out.symm, drew_more HW.out _⟩
            · rw [decide_eq_false h2] at hs
              clear hxy h2
              go_wp2_with fail
              go_quiet (fail)
              go_wp2
              go_ret
              exact ⟨ret_bool hd.out.symm, drew_more HW.out _⟩
          · have hb := beq_nat h1
            have hb2 : ((x1 : Int) != (y1 : Int)) = true := by rw [bne, hb]; rfl
            clear hxy
            go_wp2_with fail
            go_quiet (fail)
            go_wp2
            go_ret
            exact ⟨ret_bool hd.out.symm, drew_more HW.out _⟩
      · obtain rfl : k = n1 := by omega
        have hd : Hid (l1 = l2) := by
          have h := HT.out
          rw [List.take_of_length_le (by rw [H1.out.len]; exact Nat.le_refl _), List.take_of_length_le (by rw [H2.out.len]; exact Nat.le_refl _)] at h
          exact h
        go_wp2
        go_ret
        exact ⟨ret_bool (by rw [decide_eq_true hd.out]), HW.out⟩
  · have hd : Hid (decide (l1 = l2) = false) := decide_eq_false (fun e => hn (by rw [← H1.out.len, ← H2.out.len, e]))
    have hne : ((n1 : Int) != (n2 : Int)) = true := by rw [bne_iff_ne]; omega
    go_enter Try.func11, Try.ntmps11
    go_wp2
    go_ret
    exact ⟨ret_bool hd.out.symm, 0, rfl⟩

/-- a card: its number and its lines. -/
abbrev Crd := Nat × List Ln
/-- a card as it stands in memory. -/
structure CV where
  cid : Nat
  adr : Option Addr
  len : Nat
  cap : Nat
/-- a card's value. -/
abbrev CV.val (p : CV) : Value := .agg #[.int .u64 (p.cid : Int), .slice p.adr p.len p.cap]
/-- this card in memory is that card. -/
structure CardIs (w : World) (B : Nat) (p : CV) (x : Crd) : Prop where
  cid : p.cid = x.1
  fit : x.1 < 18446744073709551616
  lines : LinesAt w B p.adr x.2 p.len p.cap
theorem CardIs.below {w W : World} {B : Nat} {p : CV} {x : Crd} (h : CardIs w B p x) (hb : Below B w W) : CardIs W B p x := ⟨h.cid, h.fit, h.lines.below hb⟩
theorem CardIs.more {w : World} {B B' : Nat} {p : CV} {x : Crd} (h : CardIs w B p x) (hB : B ≤ B') : CardIs w B' p x := ⟨h.cid, h.fit, h.lines.more hB⟩
theorem CardIs.up {w W : World} {p : CV} {x : Crd} (h : CardIs w w.heap.size p x) (hb : Below w.heap.size w W) : CardIs W W.heap.size p x := (h.below hb).more hb.size
theorem below_new (w : World) (o : Obj) : Below w.heap.size w (w.alloc o) := (Below.refl _ _).alloc (Nat.le_refl _) o
theorem below_new2 (w : World) (o1 o2 : Obj) : Below w.heap.size w ((w.alloc o1).alloc o2) := (below_new w o1).alloc (below_new w o1).size o2

/-- cards as cells. -/
def kv (ps : List CV) : List Value := ps.flatMap fun p => [.int .u64 (p.cid : Int), .slice p.adr p.len p.cap]
theorem kv_length (l : List CV) : (kv l).length = l.length * 2 := by
  induction l with
  | nil => rfl
  | cons r l ih => simp only [kv, List.flatMap_cons, List.length_append, List.length_cons, List.length_nil] at ih ⊢; omega
theorem kv_get {l : List CV} {k : Nat} {r : CV} (h : l[k]? = some r) : (kv l)[k * 2]? = some (.int .u64 (r.cid : Int)) ∧ (kv l)[k * 2 + 1]? = some (.slice r.adr r.len r.cap) := by
  induction l generalizing k with
  | nil => simp at h
  | cons x l ih =>
    cases k with
    | zero => obtain rfl : x = r := by simpa using h
              exact ⟨rfl, rfl⟩
    | succ k =>
      have h2 := ih (k := k) (by simpa using h)
      have e : kv (x :: l) = .int .u64 (x.cid : Int) :: .slice x.adr x.len x.cap :: kv l := rfl
      have e1 : (k + 1) * 2 = k * 2 + 2 := by omega
      rw [e, e1]
      exact ⟨by simpa using h2.1, by simpa using h2.2⟩
/-- a slice of the address A that holds these cards, all of it below block B. -/
structure CardsAt (w : World) (B : Nat) (A : Option Addr) (l : List Crd) (n cp : Nat) : Prop where
  len : l.length = n
  max : n ≤ 281474976710656
  cards : ∃ ps : List CV, Dt.Lies w B A (kv ps) ∧ ps.length = l.length ∧ ∀ (k : Nat) (p : CV) (x : Crd), ps[k]? = some p → l[k]? = some x → CardIs w B p x
theorem CardsAt.below {w W : World} {B : Nat} {A : Option Addr} {l : List Crd} {n cp : Nat} (h : CardsAt w B A l n cp) (hb : Below B w W) : CardsAt W B A l n cp := by
  obtain ⟨ps, h1, h2, h3⟩ := h.cards
  exact ⟨h.len, h.max, ps, h1.below hb, h2, fun k p x hp hx => (h3 k p x hp hx).below hb⟩
theorem CardsAt.more {w : World} {B B' : Nat} {A : Option Addr} {l : List Crd} {n cp : Nat} (h : CardsAt w B A l n cp) (hB : B ≤ B') : CardsAt w B' A l n cp := by
  obtain ⟨ps, h1, h2, h3⟩ := h.cards
  exact ⟨h.len, h.max, ps, h1.more hB, h2, fun k p x hp hx => (h3 k p x hp hx).more hB⟩
theorem CardsAt.up {w W : World} {A : Option Addr} {l : List Crd} {n cp : Nat} (h : CardsAt w w.heap.size A l n cp) (hb : Below w.heap.size w W) : CardsAt W W.heap.size A l n cp := (h.below hb).more hb.size
theorem CardsAt.at_ {w : World} {B : Nat} {A : Option Addr} {l : List Crd} {n cp : Nat} (h : CardsAt w B A l n cp) {k : Nat} (hk : k < n) :
    ∃ (ad : Addr) (p : CV) (x : Crd), A = some ad ∧ ad.block < B ∧ l[k]? = some x ∧ CardIs w B p x ∧ w.cell? (ad.add (k * 2)) = some (.int .u64 (p.cid : Int)) ∧ w.cell? ⟨(ad.add (k * 2)).block, (ad.add (k * 2)).off + 1, none⟩ = some (.slice p.adr p.len p.cap) := by
  obtain ⟨ps, h1, h2, h3⟩ := h.cards
  have hkc : k < l.length := by rw [h.len]; exact hk
  have hkp : k < ps.length := by rw [h2]; exact hkc
  have hx := List.getElem?_eq_getElem hkc
  have hp := List.getElem?_eq_getElem hkp
  obtain ⟨ad, e, hB, hc⟩ := h1 (by rw [kv_length]; omega)
  obtain ⟨g1, g2⟩ := kv_get hp
  exact ⟨ad, ps[k], l[k], e, hB, hx, h3 k _ _ hp hx, hc _ _ g1, by rw [add_one]; exact hc _ _ g2⟩

end Go.Proofs.Ytdmjhaifilfniaa.Kd
