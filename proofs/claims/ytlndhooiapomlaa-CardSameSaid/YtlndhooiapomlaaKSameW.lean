/- CardSame: the law's walk. -/
import Derived.Test.YtlndhooiapomlaaKSameL
import Derived.StillTailTactics
import Derived.Deep.DeepCutAuto
namespace Go.Proofs.Ytlndhooiapomlaa.Kd
open Go.ChangeShapes Go.WideShapes Go.ChangeAt Go.RowKit
set_option linter.unusedVariables false

/-- a row of two cards. -/
theorem cards_two {w W : World} {g : Nat} {p q : CV} {x y : Crd} (hx : CardIs w w.heap.size p x) (hy : CardIs w w.heap.size q y) (hW : Below w.heap.size w W)
    (c0 : W.cell? ⟨g, 0, none⟩ = some (.int .u64 (p.cid : Int))) (c1 : W.cell? ⟨g, 1, none⟩ = some (.slice p.adr p.len p.cap)) (c2 : W.cell? ⟨g, 2, none⟩ = some (.int .u64 (q.cid : Int))) (c3 : W.cell? ⟨g, 3, none⟩ = some (.slice q.adr q.len q.cap)) :
    CardsAt W W.heap.size (some ⟨g, 0, none⟩) [x, y] 2 2 := by
  refine ⟨rfl, by omega, [p, q], fun _ => ⟨_, rfl, World.block_lt_of_cell? W _ c0, fun j u hu => ?_⟩, rfl, fun k r z hr hz => ?_⟩
  · have hj : j < 4 := by have := (List.getElem?_eq_some_iff.1 hu).1; simpa [kv] using this
    have h4 : j = 0 ∨ j = 1 ∨ j = 2 ∨ j = 3 := by omega
    rcases h4 with rfl | rfl | rfl | rfl
    · cases hu; exact c0
    · cases hu; exact c1
    · cases hu; exact c2
    · cases hu; exact c3
  · have h2 : k = 0 ∨ k = 1 := by have := (List.getElem?_eq_some_iff.1 hr).1; simp at this; omega
    rcases h2 with rfl | rfl
    · cases hr; cases hz; exact (hx.below hW).more hW.size
    · cases hr; cases hz; exact (hy.below hW).more hW.size
theorem CardsAt.first {w : World} {B : Nat} {A : Option Addr} {x y : Crd} {cp : Nat} (h : CardsAt w B A [x, y] 2 cp) : CardsAt w B A [x] 1 cp := by
  obtain ⟨ps, h1, h2, h3⟩ := h.cards
  have hp : 0 < ps.length := by rw [h2]; exact Nat.succ_pos _
  refine ⟨rfl, by omega, [ps[0]], fun _ => ?_, rfl, fun k r z hr hz => ?_⟩
  · obtain ⟨ad, e, hB, hc⟩ := h1 (by rw [kv_length]; omega)
    obtain ⟨g1, g2⟩ := kv_get (List.getElem?_eq_getElem hp)
    refine ⟨ad, e, hB, fun j u hu => ?_⟩
    have hj : j < 2 := by have := (List.getElem?_eq_some_iff.1 hu).1; simpa [kv] using this
    have h2 : j = 0 ∨ j = 1 := by omega
    rcases h2 with rfl | rfl
    · cases hu; exact hc _ _ g1
    · cases hu; exact hc _ _ g2
  · cases k with
    | zero =>
      cases hr; cases hz
      exact h3 0 _ _ (List.getElem?_eq_getElem hp) rfl
    | succ k => simp at hr
theorem pair_one (x y : Crd) : decide ([x, y] = [x]) = false := decide_eq_false (fun e => by cases e)

/-- a copy, met later. -/
theorem copy_later (P : PCard) {w W : World} {p : CV} {x : Crd} (hp : CardIs w w.heap.size p x) (hW : Below w.heap.size w W) :
    Calls Try.prog 19 #[p.val] W fun e V => ∃ q : CV, e = .returned q.val ∧ CardIs V V.heap.size q x ∧ FreeLines V W.heap.size q.adr q.len ∧ Below w.heap.size w V ∧ Below W.heap.size W V := by
  refine (P.copy W p x (hp.up hW)).mono ?_
  rintro e V ⟨q, rfl, h1, h2, h3⟩
  exact ⟨q, rfl, h1, h2, hW.trans (h3.mono hW.size), h3⟩
set_option maxRecDepth 100000 in
set_option maxHeartbeats 16000000 in
theorem same_walk (P : PCard) (w : World) (p q : CV) (x y : Crd) (hx : CardIs w w.heap.size p x) (hy : CardIs w w.heap.size q y) :
    Calls Try.prog 4 #[p.val, q.val] w fun e w' => e = .returned (.bool true) ∧ Below w.heap.size w w' := by
  obtain ⟨p0, A, n, c⟩ := p
  obtain ⟨q0, B, m, d⟩ := q
  have HX := Lib.hid hx
  have HY := Lib.hid hy
  clear hx hy
  simp only [CV.val]
  have HB := Lib.hid (below_new2 w (.cells #[.int .u64 (p0 : Int), .slice A n c] 25) (.cells #[.int .u64 (q0 : Int), .slice B m d] 25))
  have hk1 := box_two w (.int .u64 (p0 : Int)) (.slice A n c) 25 ((w.alloc (.cells #[.int .u64 (p0 : Int), .slice A n c] 25)).alloc (.cells #[.int .u64 (q0 : Int), .slice B m d] 25)) (by have := below_new (w.alloc (.cells #[.int .u64 (p0 : Int), .slice A n c] 25)) (.cells #[.int .u64 (q0 : Int), .slice B m d] 25); rw [alloc_size] at this; exact this)
  have hk2 := box_two (w.alloc (.cells #[.int .u64 (p0 : Int), .slice A n c] 25)) (.int .u64 (q0 : Int)) (.slice B m d) 25 _ (below_self _ _)
  rw [alloc_size] at hk2
  have hsz : ((w.alloc (.cells #[.int .u64 (p0 : Int), .slice A n c] 25)).alloc (.cells #[.int .u64 (q0 : Int), .slice B m d] 25)).heap.size = w.heap.size + 2 := by rw [alloc_size, alloc_size]
  go_enter Try.func4, Try.ntmps4
  go_upto_region 1 with fail
  generalize (w.alloc (.cells #[.int .u64 (p0 : Int), .slice A n c] 25)).alloc (.cells #[.int .u64 (q0 : Int), .slice B m d] 25) = w1 at *
  obtain ⟨k1, k2⟩ := hk1
  obtain ⟨k3, k4⟩ := hk2
  have HK : Hid (∀ V, Below w1.heap.size w1 V → (V.cell? ⟨w.heap.size, 0, none⟩ = some (.int .u64 (p0 : Int)) ∧ V.cell? ⟨w.heap.size, 1, none⟩ = some (.slice A n c)) ∧ V.cell? ⟨w.heap.size + 1, 0, none⟩ = some (.int .u64 (q0 : Int)) ∧ V.cell? ⟨w.heap.size + 1, 1, none⟩ = some (.slice B m d)) := Lib.hid (fun V hV => ⟨⟨(hV.cell (by show w.heap.size < _; omega)).trans k1, (hV.cell (by show w.heap.size < _; omega)).trans k2⟩, (hV.cell (by show w.heap.size + 1 < _; omega)).trans k3, (hV.cell (by show w.heap.size + 1 < _; omega)).trans k4⟩)
  have hbig : w.heap.size + 1 < w1.heap.size := by omega
  clear hsz
  have HX1 := Lib.hid (HX.out.up HB.out)
  have HY1 := Lib.hid (HY.out.up HB.out)
  go_cut [5, 6] (fun s5 s6 wx => ∃ g1 g2 : Nat, s5 = .slice (some ⟨g1, 0, none⟩) 2 2 ∧ s6 = .slice (some ⟨g2, 0, none⟩) 2 2 ∧ CardsAt wx wx.heap.size (some ⟨g1, 0, none⟩) [x, y] 2 2 ∧ CardsAt wx wx.heap.size (some ⟨g2, 0, none⟩) [y, x] 2 2 ∧ Below w1.heap.size w1 wx)
  case first =>
    go_region_held3 (fun V => (V.cell? ⟨w.heap.size, 0, none⟩ = some (.int .u64 (p0 : Int)) ∧ V.cell? ⟨w.heap.size, 1, none⟩ = some (.slice A n c)) ∧ V.cell? ⟨w.heap.size + 1, 0, none⟩ = some (.int .u64 (q0 : Int)) ∧ V.cell? ⟨w.heap.size + 1, 1, none⟩ = some (.slice B m d)) (first | go_keep | assumption | exact HK.out _ (by (repeat (first | exact Below.refl _ _ | assumption | apply bel_drew | apply bel_alloc)))) (fail)
    all_goals
      go_wp2_with fail
      go_meet
      refine ⟨_, _, rfl, rfl, cards_two HX1.out HY1.out ?_ ?_ ?_ ?_ ?_, cards_two HY1.out HX1.out ?_ ?_ ?_ ?_ ?_, ?_⟩
    all_goals first | ((repeat (first | exact Below.refl _ _ | assumption | apply bel_drew | apply bel_alloc)); done) | (simp [go_sem]; done) | assumption
  case rest =>
    obtain ⟨g1, g2, rfl, rfl, hl, hm, hb1⟩ := hcut
    have HL := Lib.hid hl
    have HM := Lib.hid hm
    have HB1 := Lib.hid hb1
    clear hl hm hb1
    go_upto_region 2 with fail
    have HK2 : Hid (∀ V, Below wc.heap.size wc V → (V.cell? ⟨w.heap.size, 0, none⟩ = some (.int .u64 (p0 : Int)) ∧ V.cell? ⟨w.heap.size, 1, none⟩ = some (.slice A n c)) ∧ V.cell? ⟨w.heap.size + 1, 0, none⟩ = some (.int .u64 (q0 : Int)) ∧ V.cell? ⟨w.heap.size + 1, 1, none⟩ = some (.slice B m d)) := Lib.hid (fun V hV => HK.out V (HB1.out.trans (hV.mono HB1.out.size)))
    have HX2 := Lib.hid (HX1.out.up HB1.out)
    have HY2 := Lib.hid (HY1.out.up HB1.out)
    obtain ⟨⟨k5, k6⟩, k7, k8⟩ := HK2.out _ (Below.refl _ _)
    go_cut [51] (fun s51 wx => s51 = .bool false ∧ Below wc.heap.size wc wx)
    case first =>
      have L1 := fun W (hW : Below wc.heap.size wc W) => later hW (P.same W _ _ x y (HX2.out.up hW) (HY2.out.up hW))
      have L2 := fun W (hW : Below wc.heap.size wc W) => later hW (rsame_any W _ _ x y (HX2.out.up hW) (HY2.out.up hW))
      have L3 := fun W (hW : Below wc.heap.size wc W) => later hW (P.all W _ _ [x, y] [y, x] 2 2 2 2 (HL.out.up hW) (HM.out.up hW))
      have L4 := fun W (hW : Below wc.heap.size wc W) => later hW (rall_any W _ _ [x, y] [y, x] 2 2 2 2 (HL.out.up hW) (HM.out.up hW))
      have L5 := fun W (hW : Below wc.heap.size wc W) => later hW (P.all W _ _ [x, y] [x, y] 2 2 2 2 (HL.out.up hW) (HL.out.up hW))
      have L6 := fun W (hW : Below wc.heap.size wc W) => later hW (P.all W _ _ [x, y] [x] 2 1 2 2 (HL.out.up hW) (HL.out.first.up hW))
      rw [decide_eq_true rfl] at L5
      rw [pair_one] at L6
      simp only [CV.val] at L1 L2
      generalize decide (x = y) = v1 at L1 L2
      generalize decide ([x, y] = [y, x]) = v2 at L3 L4
      go_region_held3 (fun V => (V.cell? ⟨w.heap.size, 0, none⟩ = some (.int .u64 (p0 : Int)) ∧ V.cell? ⟨w.heap.size, 1, none⟩ = some (.slice A n c)) ∧ V.cell? ⟨w.heap.size + 1, 0, none⟩ = some (.int .u64 (q0 : Int)) ∧ V.cell? ⟨w.heap.size + 1, 1, none⟩ = some (.slice B m d)) (first | go_keep | assumption | exact HK2.out _ (by (repeat (first | exact Below.refl _ _ | assumption | apply bel_drew | apply bel_alloc)))) (first
        | (go_at_call 15; (with_reducible refine (L1 _ ?_).mono ?_); (repeat (first | exact Below.refl _ _ | assumption | apply bel_drew | apply bel_alloc)); rintro e V ⟨rfl, bv⟩; have hcV := HK2.out V bv)
        | (go_at_call 16; (with_reducible refine (L2 _ ?_).mono ?_); (repeat (first | exact Below.refl _ _ | assumption | apply bel_drew | apply bel_alloc)); rintro e V ⟨rfl, bv⟩; have hcV := HK2.out V bv)
        | (go_at_call 17; (with_reducible refine (L3 _ ?_).mono ?_); (repeat (first | exact Below.refl _ _ | assumption | apply bel_drew | apply bel_alloc)); rintro e V ⟨rfl, bv⟩; have hcV := HK2.out V bv)
        | (go_at_call 18; (with_reducible refine (L4 _ ?_).mono ?_); (repeat (first | exact Below.refl _ _ | assumption | apply bel_drew | apply bel_alloc)); rintro e V ⟨rfl, bv⟩; have hcV := HK2.out V bv)
        | (go_at_call 17; (with_reducible refine (L5 _ ?_).mono ?_); (repeat (first | exact Below.refl _ _ | assumption | apply bel_drew | apply bel_alloc)); rintro e V ⟨rfl, bv⟩; have hcV := HK2.out V bv)
        | (go_at_call 17; (with_reducible refine (L6 _ ?_).mono ?_); (repeat (first | exact Below.refl _ _ | assumption | apply bel_drew | apply bel_alloc)); rintro e V ⟨rfl, bv⟩; have hcV := HK2.out V bv))
      all_goals
        go_wp2_with fail
        go_meet
        first | exact ⟨rfl, by assumption⟩ | exact ⟨by simp, by assumption⟩
    case rest =>
      obtain ⟨rfl, hb2⟩ := hcut
      go_upto_region 4 with fail
      have HB3 := Lib.hid (HB1.out.trans (hb2.mono HB1.out.size))
      have HK3 : Hid (∀ V, Below wc.heap.size wc V → (V.cell? ⟨w.heap.size, 0, none⟩ = some (.int .u64 (p0 : Int)) ∧ V.cell? ⟨w.heap.size, 1, none⟩ = some (.slice A n c))) := Lib.hid (fun V hV => (HK.out V (HB3.out.trans (hV.mono HB3.out.size))).1)
      have HX3 := Lib.hid (HX1.out.up HB3.out)
      clear hb2 k1 k2 k3 k4 k5 k6 k7 k8
      obtain ⟨k5, k6⟩ := HK3.out _ (Below.refl _ _)
      have hws : w.heap.size + 1 < wc.heap.size := Nat.lt_of_lt_of_le hbig HB3.out.size
      obtain ⟨n00, n01, n02, n03⟩ := far_of hws (Nat.le_refl _)
      have LC := fun W (hW : Below wc.heap.size wc W) => copy_later P HX3.out hW
      simp only [CV.val] at LC
      go_cut [7, 8] (fun s7 s8 wx => ∃ (w0 : World) (h1 l h b7 b8 : Nat) (qc qd : CV), s7 = .pointer (some ⟨b7, 0, none⟩) ∧ s8 = .pointer (some ⟨b8, 0, none⟩) ∧ LInv w0 h1 l h b7 b8 qc qd x 0 wx ∧ Below w1.heap.size w1 w0 ∧ ∀ V, Below w0.heap.size w0 V → (V.cell? ⟨w.heap.size, 0, none⟩ = some (.int .u64 (p0 : Int)) ∧ V.cell? ⟨w.heap.size, 1, none⟩ = some (.slice A n c)))
      case first =>
        go_region_held3 (fun V => (V.cell? ⟨w.heap.size, 0, none⟩ = some (.int .u64 (p0 : Int)) ∧ V.cell? ⟨w.heap.size, 1, none⟩ = some (.slice A n c))) (first | go_keep | assumption | exact HK3.out _ (by (repeat (first | exact Below.refl _ _ | assumption | apply bel_drew | apply bel_alloc)))) (first
          | (go_at_call 19; have hp1 := hq1; (with_reducible refine (LC _ ?_).mono ?_); (repeat (first | exact Below.refl _ _ | assumption | apply bel_drew | apply bel_alloc)); rintro e V2 ⟨pd, rfl, hq2, hf2, bv2, bw2⟩; have hcV := HK3.out V2 bv2; obtain ⟨n20, n21, n22, n23⟩ := far_of hws bv2.size; (try ((with_reducible have za := New4.kept bw2 yan); have zan := za; obtain ⟨⟨za0, za1, za2, za3⟩, ⟨za4, za5, za6, za7⟩, za8, za9, za10, za11⟩ := za.all)); (try ((with_reducible have za := New4.kept bw2 (new_alloc yan)); have zan := za; obtain ⟨⟨za0, za1, za2, za3⟩, ⟨za4, za5, za6, za7⟩, za8, za9, za10, za11⟩ := za.all)); (try ((with_reducible have zb := New4.kept bw2 ybn); have zbn := zb; obtain ⟨⟨zb0, zb1, zb2, zb3⟩, ⟨zb4, zb5, zb6, zb7⟩, zb8, zb9, zb10, zb11⟩ := zb.all)); (try ((with_reducible have zc := New4.kept bw2 (new_here V1)); have zcn := zc; obtain ⟨⟨zc0, zc1, zc2, zc3⟩, ⟨zc4, zc5, zc6, zc7⟩, zc8, zc9, zc10, zc11⟩ := zc.all)); (try ((with_reducible have zc := New4.kept bw2 (new_alloc (new_here V1))); have zcn := zc; obtain ⟨⟨zc0, zc1, zc2, zc3⟩, ⟨zc4, zc5, zc6, zc7⟩, zc8, zc9, zc10, zc11⟩ := zc.all)); (try ((with_reducible have zd := New4.kept bw2 (new_here2 V1 _)); have zdn := zd; obtain ⟨⟨zd0, zd1, zd2, zd3⟩, ⟨zd4, zd5, zd6, zd7⟩, zd8, zd9, zd10, zd11⟩ := zd.all)))
          | (go_at_call 19; (with_reducible refine (LC _ ?_).mono ?_); (repeat (first | exact Below.refl _ _ | assumption | apply bel_drew | apply bel_alloc)); rintro e V1 ⟨pc, rfl, hq1, hf1, bv1, bw1⟩; have hcV := HK3.out V1 bv1; obtain ⟨n10, n11, n12, n13⟩ := far_of hws bv1.size; (try ((with_reducible have ya := New4.kept bw1 (new_drew (new_here wc))); have yan := ya; obtain ⟨⟨ya0, ya1, ya2, ya3⟩, ⟨ya4, ya5, ya6, ya7⟩, ya8, ya9, ya10, ya11⟩ := ya.all)); (try ((with_reducible have ya := New4.kept bw1 (new_drew (new_alloc (new_here wc)))); have yan := ya; obtain ⟨⟨ya0, ya1, ya2, ya3⟩, ⟨ya4, ya5, ya6, ya7⟩, ya8, ya9, ya10, ya11⟩ := ya.all)); (try ((with_reducible have yb := New4.kept bw1 (new_drew (new_here2 wc _))); have ybn := yb; obtain ⟨⟨yb0, yb1, yb2, yb3⟩, ⟨yb4, yb5, yb6, yb7⟩, yb8, yb9, yb10, yb11⟩ := yb.all))))
        all_goals
          go_wp2_with fail
          go_meet
          obtain ⟨L1, H1, L, H, HP, e1, e2, e3, e4⟩ := pre_start (x := x) (by simp only [alloc_size, drew_size]; first | exact Nat.le_refl _ | exact Nat.le_succ _ | exact Nat.le_add_right _ _ | exact Nat.le_trans (Nat.le_succ _) (Nat.le_succ _)) bw1 (by (repeat (first | exact Below.refl _ _ | apply bel_alloc))) bw2 hq1 hf1 hq2 hf2 bv2
          have t1 := bw1.size
          have t2 := bw2.size
          clear n00 n01 n02 n03 n10 n11 n12 n13 n20 n21 n22 n23
          (try clear ya8 ya9 ya10 ya11)
          (try clear yb8 yb9 yb10 yb11)
          (try clear za8 za9 za10 za11)
          (try clear zb8 zb9 zb10 zb11)
          (try clear zc8 zc9 zc10 zc11)
          (try clear zd8 zd9 zd10 zd11)
          simp only [alloc_size, drew_size] at e1 e2 e3 e4 t1 t2
          refine ⟨wc, H1, L, H, _, _, pc, pd, rfl, rfl, Pre.inv (l1 := L1) ?_ ?_ ?_ ?_, HB3.out, HK3.out⟩
          · repeat (first | (with_reducible exact HP) | (with_reducible apply Pre.alloc) | ((with_reducible refine Pre.set ?_ ?_ ?_ ?_ _) <;> (try (focus (dsimp only; omega)))))
          · omega
          · omega
          · first
              | (with_reducible exact boxes_two _ _ _)
              | (with_reducible exact boxes_two' _ _ _)
              | ((with_reducible refine boxes_mix _ _ ?_); (repeat (first | (with_reducible assumption) | (with_reducible exact new_here _) | (with_reducible exact new_here2 _ _) | (with_reducible apply new_alloc))); done)
              | ((with_reducible refine boxes_set _ _ ?_ ?_ ?_) <;> first | ((repeat (first | (with_reducible assumption) | (with_reducible exact new_here _) | (with_reducible exact new_here2 _ _) | (with_reducible apply new_alloc))); done) | omega)
      case rest =>
        clear k5 k6 LC HL HM
        obtain ⟨w0, h1, l, h, b7, b8, qc, qd, rfl, rfl, hI, hw0, hk0⟩ := hcut
        have HI := Lib.hid hI
        have HK := Lib.hid hk0
        have HW0 := Lib.hid (HB.out.trans (hw0.mono HB.out.size))
        obtain ⟨_, d0, d1⟩ := hI.box
        clear hI hk0 hw0 hws n00 n01 n02 n03
        go_wp2_with fail
        go_loopw [59] (fun v wr => ∃ k : Nat, k ≤ qd.len ∧ v = .int .i64 (k : Int) ∧ LInv w0 h1 l h b7 b8 qc qd x k wr) (fun v _ => qd.len - (intOf v).toNat)
        case atStart => exact ⟨0, Nat.zero_le _, rfl, HI.out⟩
        case round =>
          clear d0 d1
          obtain ⟨k, hk, rfl, hI⟩ := hrel
          have HJ := Lib.hid hI
          clear hI HI
          have hql := HJ.out.len
          obtain ⟨_, d0, d1⟩ := HJ.out.box
          by_cases hlt : k < qd.len
          · obtain ⟨ad, p, e, hB, hfz, hcell, hpl, ht⟩ := HJ.out.free k hlt
            obtain ⟨ad', s, e', hs, hsh⟩ := HJ.out.texts k (Nat.le_refl _) hlt
            rw [e] at e' d1
            obtain rfl := Option.some.inj e'
            have f1 : wr.cell? ⟨(ad.add (k * 3)).block, (ad.add (k * 3)).off + 1, none⟩ = some (.string s) := by rw [add_one]; exact hs
            have f2 : wr.frozen? ⟨(ad.add (k * 3)).block, (ad.add (k * 3)).off + 1, none⟩ = false := by rw [add_one]; exact hfz
            have hadd := fun W => run_string_add_sum (P := Try.prog) W s ⟨#[120]⟩ (by unfold Short at hsh; show s.size + 1 ≤ _; omega)
            clear hs hfz
            go_wp2_with fail
            go_still_tail 12, (by kernel_rfl)
            change wpList _ _ _ _ _ wr.drew
            go_upto_region 9 with fail
            have HN : Hid (LInv w0 h1 l h b7 b8 qc qd x (k + 1) (wr.setCell ⟨(ad.add (k * 3)).block, (ad.add (k * 3)).off + 1, none⟩ (.string (s ++ ⟨#[120]⟩))).drew) := Lib.hid (by have := (HJ.out.set_text e hB (.string (s ++ ⟨#[120]⟩))).drew; rw [← add_one] at this; exact this)
            have HC : Hid ((wr.setCell ⟨(ad.add (k * 3)).block, (ad.add (k * 3)).off + 1, none⟩ (.string (s ++ ⟨#[120]⟩))).drew.cell? (ad.add (k * 3 + 2)) = some (.slice p.adr p.len p.cap)) := Lib.hid (by rw [add_one]; exact (World.cell?_setCell_other wr (ad.add (k * 3 + 1)) (ad.add (k * 3 + 2)) _ (fun e => by have := add_inj e; omega)).trans hcell)
            clear d0 d1 f1 f2 hcell hadd ht hsh
            generalize (wr.setCell ⟨(ad.add (k * 3)).block, (ad.add (k * 3)).off + 1, none⟩ (.string (s ++ ⟨#[120]⟩))).drew = w2 at HN HC ⊢
            obtain ⟨_, d0, d1⟩ := HN.out.box
            rw [e] at d1
            have f3 : w2.cell? ⟨(ad.add (k * 3)).block, (ad.add (k * 3)).off + 2, none⟩ = some (.slice p.adr p.len p.cap) := by rw [add_two]; exact HC.out
            go_wp2_with fail
            go_loopw [81] (fun v wr => ∃ j : Nat, j ≤ p.len ∧ v = .int .i64 (j : Int) ∧ LInv w0 h1 l h b7 b8 qc qd x (k + 1) wr ∧ wr.cell? (ad.add (k * 3 + 2)) = some (.slice p.adr p.len p.cap)) (fun v _ => p.len - (intOf v).toNat)
            case atStart => exact ⟨0, Nat.zero_le _, rfl, HN.out, HC.out⟩
            case round =>
              clear d0 d1 f3 HN HC HJ
              obtain ⟨j, hj, rfl, hI, hC⟩ := hrel
              have HJ := Lib.hid hI
              have HC := Lib.hid hC
              clear hI hC
              obtain ⟨_, d0, d1⟩ := HJ.out.box
              rw [e] at d1
              by_cases hjl : j < p.len
              · obtain ⟨ad', p', e', _, _, hcell', _, ht⟩ := HJ.out.free k hlt
                rw [e] at e'
                obtain rfl := Option.some.inj e'
                rw [HC.out] at hcell'
                obtain ⟨g1', g2', g3'⟩ := Value.slice.inj (Option.some.inj hcell')
                obtain ⟨a2, u, ea, hb2, hne, hf2, hc2⟩ := ht j (by rw [← g2']; exact hjl)
                rw [← g1'] at ea
                have f3 : wr.cell? ⟨(ad.add (k * 3)).block, (ad.add (k * 3)).off + 2, none⟩ = some (.slice (some a2) p.len p.cap) := by rw [add_two, HC.out, ea]
                have HN : Hid (LInv w0 h1 l h b7 b8 qc qd x (k + 1) (wr.setCell (a2.add j) (.string ⟨#[63]⟩))) := Lib.hid (HJ.out.set_more e hb2 hne j _)
                have HC2 : Hid ((wr.setCell (a2.add j) (.string ⟨#[63]⟩)).cell? (ad.add (k * 3 + 2)) = some (.slice p.adr p.len p.cap)) := Lib.hid ((World.cell?_setCell_far _ _ _ _ (by rw [block_add, block_add]; exact hne)).trans HC.out)
                clear hcell' ht g1' g2' g3' HC HJ
                go_wp2_with fail
                go_roundw
                case rel => exact ⟨j + 1, by omega, by go_num, HN.out, HC2.out⟩
                case measure => simp [intOf]; omega
              · obtain rfl : j = p.len := by omega
                clear d0 d1 HC
                go_wp2_with fail
                have hk1 : k + 1 ≤ qd.len := by omega
                refine ⟨?_, by simp [intOf]; omega⟩
                (repeat apply Exists.intro)
                rw [e]
                refine ⟨?_, rfl⟩
                exact ⟨k + 1, hk1, by go_num, HJ.out⟩
          · obtain rfl : k = qd.len := by omega
            clear d0 d1
            have HWr := Lib.hid (HW0.out.trans (HJ.out.bel.mono HW0.out.size))
            obtain ⟨k5, k6⟩ := HK.out wr HJ.out.bel
            have CL := P.line wr ⟨p0, A, n, c⟩ x 1 (by decide) (HX.out.up HWr.out)
            simp only [CV.val] at CL
            obtain ⟨ok, hok⟩ : ∃ ok, (lineC x.2 1).isSome = ok := ⟨_, rfl⟩
            go_wp2_with fail
            refine CL.mono ?_
            rintro e w3 ⟨pl, rfl, hpl, hfl, hb3⟩
            rw [hok]
            have HOK := Lib.hid hok
            clear hok CL k5 k6
            have HL4 := Lib.hid (LBox.new w3 pl)
            have HX4 : Hid (XInv wr w3.heap.size pl (w3.alloc (.cells #[.int .u8 (pl.fld : Int), .string pl.txt, .slice pl.adr pl.len pl.cap] 28))) := Lib.hid ⟨HL4.out, (MFree.of hpl.more hfl).kept (below_new w3 _), hb3.trans ((below_new w3 _).mono hb3.size)⟩
            have hw3 := hb3.size
            have hpw := hpl.more.wide
            clear hpl hfl hb3 HL4
            simp only [LV.val]
            obtain ⟨f0, f1, f2⟩ := HX4.out.box
            go_wp2_with fail
            generalize w3.alloc (.cells #[.int .u8 (pl.fld : Int), .string pl.txt, .slice pl.adr pl.len pl.cap] 28) = w4 at *
            go_loopw [102] (fun v wq => ∃ j : Nat, j ≤ pl.len ∧ v = .int .i64 (j : Int) ∧ XInv wr w3.heap.size pl wq) (fun v _ => pl.len - (intOf v).toNat)
            case atStart => exact ⟨0, Nat.zero_le _, rfl, HX4.out⟩
            case round =>
              clear f0 f1 f2 HX4
              obtain ⟨j, hj, rfl, hI⟩ := hrel
              have HQ := Lib.hid hI
              clear hI
              obtain ⟨f0, f1, f2⟩ := HQ.out.box
              by_cases hjl : j < pl.len
              · obtain ⟨a2, u, ea, hb2, hz2, hc2⟩ := HQ.out.free j hjl
                rw [ea] at f2
                have HN := Lib.hid (HQ.out.set (j := j) hb2 (.string ⟨#[63, 63]⟩))
                go_wp2_with fail
                go_roundw
                case rel => exact ⟨j + 1, by omega, by go_num, HN.out⟩
                case measure => simp [intOf]; omega
              · obtain rfl : j = pl.len := by omega
                clear f0 f1 f2
                have HWq := Lib.hid (HWr.out.trans (HQ.out.bel.mono HWr.out.size))
                have HKq := Lib.hid (HJ.out.bel.trans (HQ.out.bel.mono HJ.out.bel.size))
                obtain ⟨⟨c0, c1⟩, _⟩ := HJ.out.box
                have r0 := stays HQ.out.bel c0
                have r1 := stays HQ.out.bel c1
                have HC : Hid (CardIs wr wr.heap.size qc x) := Lib.hid ((HJ.out.c.below (HQ.out.bel.mono HJ.out.lim)).more (Nat.le_trans HJ.out.lim HQ.out.bel.size))
                have HR := Lib.hid (And.intro r0 r1)
                have CR := rline_any wr qc x 1 (by decide) HC.out
                simp only [CV.val] at CR
                have hok := HOK.out
                clear c0 c1 HQ
                go_wp2_with fail
                refine CR.mono ?_
                rintro e w5 ⟨py, rfl, hpy, hb5⟩
                rw [hok]
                have HY6 := Lib.hid (LBox.new w5 py)
                have Hb6 := Lib.hid (hb5.trans ((below_new w5 (.cells #[.int .u8 (py.fld : Int), .string py.txt, .slice py.adr py.len py.cap] 28)).mono hb5.size))
                have HPY := Lib.hid (hpy.more.below (below_new w5 (.cells #[.int .u8 (py.fld : Int), .string py.txt, .slice py.adr py.len py.cap] 28)))
                have hs5 : w5.heap.size ≤ (w5.alloc (.cells #[.int .u8 (py.fld : Int), .string py.txt, .slice py.adr py.len py.cap] 28)).heap.size := by rw [alloc_size]; omega
                clear CR r0 r1 hpy hb5
                simp only [LV.val]
                have s0 := stays Hb6.out HR.out.1
                have s1 := stays Hb6.out HR.out.2
                have CL2 := P.line _ qc x 1 (by decide) (HC.out.up Hb6.out)
                simp only [CV.val] at CL2
                go_wp2_with fail
                generalize w5.alloc (.cells #[.int .u8 (py.fld : Int), .string py.txt, .slice py.adr py.len py.cap] 28) = w6 at *
                refine CL2.mono ?_
                rintro e w7 ⟨pz, rfl, hpz, _, hb7⟩
                rw [hok]
                have HZ8 := Lib.hid (LBox.new w7 pz)
                have Hb8 := Lib.hid (hb7.trans ((below_new w7 (.cells #[.int .u8 (pz.fld : Int), .string pz.txt, .slice pz.adr pz.len pz.cap] 28)).mono hb7.size))
                have HPZ := Lib.hid (hpz.more.below (below_new w7 (.cells #[.int .u8 (pz.fld : Int), .string pz.txt, .slice pz.adr pz.len pz.cap] 28)))
                have hs7 : w7.heap.size ≤ (w7.alloc (.cells #[.int .u8 (pz.fld : Int), .string pz.txt, .slice pz.adr pz.len pz.cap] 28)).heap.size := by rw [alloc_size]; omega
                clear CL2 s0 s1 hpz hb7
                simp only [LV.val]
                go_upto_region 23 with fail
                generalize w7.alloc (.cells #[.int .u8 (pz.fld : Int), .string pz.txt, .slice pz.adr pz.len pz.cap] 28) = w8 at *
                have Hq8 := Lib.hid (Hb6.out.trans (Hb8.out.mono Hb6.out.size))
                have HW8 := Lib.hid (HWq.out.trans (Hq8.out.mono HWq.out.size))
                have s0 := stays Hq8.out HR.out.1
                have s1 := stays Hq8.out HR.out.2
                obtain ⟨k5, k6⟩ := HK.out w8 (HKq.out.trans (Hq8.out.mono HKq.out.size))
                have CS := rsame_any w8 qc ⟨p0, A, n, c⟩ x x (HC.out.up Hq8.out) (HX.out.up HW8.out)
                rw [decide_eq_true rfl] at CS
                simp only [CV.val] at CS
                go_wp2_with fail
                refine CS.mono ?_
                rintro e w9 ⟨rfl, hb9⟩
                have HW9 := Lib.hid (HW8.out.trans (hb9.mono HW8.out.size))
                have y2 := (HY6.out.kept Hb8.out).kept hb9
                have z2 := HZ8.out.kept hb9
                have hY9 := ((HPY.out.below (Hb8.out.mono hs5)).below (hb9.mono (Nat.le_trans hs5 Hb8.out.size)))
                have hZ9 := HPZ.out.below (hb9.mono hs7)
                have CT := rtexts_any w9 _ _ _ _ _ _ _ _ _ _ hY9 hZ9
                rw [decide_eq_true rfl] at CT
                clear CS s0 s1 k5 k6 hb9 hY9 hZ9
                obtain ⟨_, _, y2⟩ := y2
                obtain ⟨_, _, z2⟩ := z2
                go_wp2_with fail
                refine CT.mono ?_
                rintro e w10 ⟨rfl, mm, rfl⟩
                have HW10 := Lib.hid (bel_drewN HW9.out mm)
                have CW := works_any P (w9.drewN mm)
                clear CT y2 z2
                go_wp2_with fail
                refine CW.mono ?_
                rintro e w11 ⟨rfl, hb11⟩
                have HW11 := Lib.hid (HW10.out.trans (hb11.mono HW10.out.size))
                clear hb11 CW
                go_wp2
                go_ret
                exact ⟨rfl, HW11.out⟩
end Go.Proofs.Ytlndhooiapomlaa.Kd
