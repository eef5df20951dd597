/- The contract of the document's Show of layer reg. -/
import Derived.Test.YtdmjhaifilfniaaGPut
import Derived.Deep.RegionHeld3
import Derived.Deep.RegionLaw
namespace Go.Proofs.Ytdmjhaifilfniaa.Rg
open Go.ChangeShapes Go.WideShapes Go.ChangeAt Go.RowKit
set_option linter.unusedVariables false

/-- a line comes out. -/
def LinePost (w : World) (x : Kd.Ln) (e : Ending) (w' : World) : Prop := ∃ p : Kd.LV, e = .returned (.agg #[.int .u8 (p.fld : Int), .string p.txt, .slice p.adr p.len p.cap]) ∧ Kd.LineIs w' w'.heap.size p x ∧ NewT w.heap.size p.adr p.len ∧ Below w.heap.size w w'
/-- an empty line's box. -/
abbrev lbox (f : Nat) (s : ByteArray) : Obj := .cells #[.int .u8 (f : Int), .string s, .slice none 0 0] 37
theorem bel_drew {W V : World} (h : Below W.heap.size W V) : Below W.heap.size W V.drew := h.drew
theorem below_drewN (B : Nat) (w : World) (m : Nat) : Below B w (w.drewN m) := Kd.below_drewN B w m
end Go.Proofs.Ytdmjhaifilfniaa.Rg
namespace Go.Proofs.Ytdmjhaifilfniaa.Kd
open Go.ChangeShapes Go.WideShapes Go.ChangeAt Go.RowKit
theorem TextsAt.up {w W : World} {A : Option Addr} {l : List ByteArray} {n c : Nat} (h : TextsAt w w.heap.size A l n c) (hb : Below w.heap.size w W) : TextsAt W W.heap.size A l n c := (h.below hb).more hb.size
end Go.Proofs.Ytdmjhaifilfniaa.Kd
namespace Go.Proofs.Ytdmjhaifilfniaa.Rg
open Go.ChangeShapes Go.WideShapes Go.ChangeAt Go.RowKit
theorem show_some {f : Nat} {l : List Vl} (h : 0 < l.length) : showV f l = (f, (winV l).2, otherT (winV l).2 (textsT (l.map Prod.snd))) := by
  cases l with
  | nil => simp at h
  | cons a l => rfl
theorem short_empty : Kd.Short ⟨#[]⟩ := by unfold Kd.Short; decide

theorem other_nil {s : ByteArray} : otherT s [] = [] := by unfold otherT; rfl
theorem other_skip {l : List ByteArray} {k : Nat} {x s : ByteArray} (h : l[k]? = some x) (hx : x = s) : otherT s (l.take (k + 1)) = otherT s (l.take k) := by
  unfold otherT
  rw [List.take_add_one, h, List.filter_append]
  simp [hx]
theorem other_keep {l : List ByteArray} {k : Nat} {x s : ByteArray} (h : l[k]? = some x) (hx : ¬ x = s) : otherT s (l.take (k + 1)) = otherT s (l.take k) ++ [x] := by
  unfold otherT
  rw [List.take_add_one, h, List.filter_append]
  simp [hx]
/-- a line while it is filled. -/
def SRel (w w2 w5 : World) (f : Nat) (y : Vl) (AT : Option Addr) (T : List ByteArray) (nT cT : Nat) (i : Value) (wr : World) : Prop :=
  ∃ (k m c1 : Nat) (A1 : Option Addr), k ≤ nT ∧ i = .int .i64 (k : Int) ∧ m ≤ k ∧
    At wr w.heap.size 37 #[.int .u8 0, .string ⟨#[]⟩, .slice none 0 0] ∧
    At wr w2.heap.size 29 #[.int .u16 (y.1.1 : Int), .int .u64 (y.1.2 : Int), .string y.2] ∧
    At wr (w2.heap.size + 1) 37 #[.int .u8 (f : Int), .string y.2, .slice A1 m c1] ∧
    Kd.TextsAt wr wr.heap.size A1 (otherT y.2 (T.take k)) m c1 ∧ NewT w5.heap.size A1 m ∧ Kd.TextsAt wr wr.heap.size AT T nT cT ∧ Below w.heap.size w wr ∧ w5.heap.size ≤ wr.heap.size

/-- an append of texts in a region that draws. -/
theorem step_text {ops : Array Oper} {o : Oper} {a : Act} {K : Act → World → Prop} {Q : Exit → Act → World → Prop} {E : Prop} (hgd : o.guard = none) (s x : Operand) (ho : o.op = .call { callee := .builtin .append, args := #[s, x], argTypes := #[33, 33] }) (hty : o.type = 33)
    (w W : World) (k q : Nat) (v : Value) (xs : List ByteArray) (A : Option Addr) (m : List ByteArray) (n c : Nat) (hs : a.eval s = v) (hx : a.eval x = .slice A n c) (hbl : Below W.heap.size W w) (hw : w.ownsRow W.heap.size 9 1 v k (Kd.tv xs)) (hA : A = none → n = 0 ∧ c = 0) (hb : Dt.Lies w w.heap.size A (Kd.tv m)) (hl : m.length = n)
    (hq : k + n = q) (hn : q ≤ 8796093022208)
    (hK : ∀ A' c' w', w'.ownsRow W.heap.size 9 1 (.slice A' q c') q (Kd.tv (xs ++ m)) → w.grownBy w' v.ownBlock → Below W.heap.size W w' → K (a.put o.dst (.slice A' q c')) w') :
    if Region.wanted o (yielded ops a.tmps) = true then Oper.wp Try.prog o a w K Q else E := by
  subst hq
  have hwa : Region.wanted o (yielded ops a.tmps) = true := by simp [Region.wanted, hgd]
  rw [if_pos hwa]
  obtain ⟨A', c', w', hr, h2, h3⟩ := run_text w W.heap.size k v xs A m n c hw hA hb hl hn hbl.size
  rw [← hty] at hr
  unfold Oper.wp execOp
  simp only [ho, resolve, invoke, builtin, Sem.run_bind, Sem.run_pure, Result.andThen_ok, List.map_toArray, List.map_cons, List.map_nil, hs, hx]
  rw [hty] at hr ⊢
  rw [hr]
  exact hK _ _ _ h2 h3 (text_grown hw hbl h3)
theorem own_lit {W V : World} (hB : Below W.heap.size W V) : (V.alloc (.cells #[] 9)).ownsRow W.heap.size 9 1 (.slice (some ⟨V.heap.size, 0, none⟩) 0 0) 0 (Kd.tv []) :=
  World.ownsRow_lit V #[] 0 hB.size (by simp [maxLen]) rfl
theorem own_lit2 {W V : World} (hB : Below W.heap.size W V) (o : Obj) : ((V.alloc (.cells #[] 9)).alloc o).ownsRow W.heap.size 9 1 (.slice (some ⟨V.heap.size, 0, none⟩) 0 0) 0 (Kd.tv []) := (own_lit hB).alloc _
theorem own_lit3 {W V : World} (hB : Below W.heap.size W V) (o : Obj) : ((V.alloc o).alloc (.cells #[] 9)).ownsRow W.heap.size 9 1 (.slice (some ⟨V.heap.size + 1, 0, none⟩) 0 0) 0 (Kd.tv []) := by
  have h := own_lit (hB.alloc hB.size o)
  rw [alloc_size] at h
  exact h
theorem lies_kept {w w' : World} {b g : Nat} {vs : List Value} (h : Dt.Lies w w.heap.size (some ⟨b, 0, none⟩) vs) (hg : w.grownBy w' (some g)) (hne : b ≠ g) : Dt.Lies w' w'.heap.size (some ⟨b, 0, none⟩) vs := fun hl => by
  obtain ⟨ad, e, hB, hc⟩ := h hl
  cases e
  refine ⟨_, rfl, Nat.lt_of_lt_of_le hB hg.size, fun j u hu => ?_⟩
  rw [Dt.zero_add]
  have h1 := hc j u hu
  rw [Dt.zero_add] at h1
  rw [World.grownBy.cell_far hg ⟨b, j, none⟩ hB (fun e => hne (by simpa using e))]
  exact h1
theorem lies_alloc {w : World} {A : Option Addr} {vs : List Value} (h : Dt.Lies w w.heap.size A vs) (o : Obj) : Dt.Lies (w.alloc o) (w.alloc o).heap.size A vs := (h.below (below_new w o)).more (below_new w o).size
theorem grown_undrew {U V : World} {row : Option Nat} (h : U.drew.grownBy V row) : U.grownBy V row := ⟨h.os, h.tape, h.output, h.size, h.block⟩
/-- the text's own block was laid ahead of, or behind, the empty list's. -/
theorem lies_c {U V : World} {x : ByteArray} {o : Obj} (hg : ((U.alloc (.cells #[.string x] 9)).alloc o).grownBy V (some (U.heap.size + 1))) : Dt.Lies V V.heap.size (some ⟨U.heap.size, 0, none⟩) (Kd.tv [x]) :=
  lies_kept (lies_alloc (lies_text U x) o) hg (by omega)
theorem lies_b {U V : World} {x : ByteArray} {o : Obj} (hg : ((U.alloc o).alloc (.cells #[.string x] 9)).grownBy V (some U.heap.size)) : Dt.Lies V V.heap.size (some ⟨U.heap.size + 1, 0, none⟩) (Kd.tv [x]) := by
  have h := lies_text (U.alloc o) x
  rw [show (U.alloc o).heap.size = U.heap.size + 1 from alloc_size U o] at h
  exact lies_kept h hg (by omega)
theorem lies_text1 (U : World) (o : Obj) (x : ByteArray) : Dt.Lies ((U.alloc o).alloc (.cells #[.string x] 9)) ((U.alloc o).alloc (.cells #[.string x] 9)).heap.size (some ⟨U.heap.size + 1, 0, none⟩) (Kd.tv [x]) := by
  have h := lies_text (U.alloc o) x
  rw [show (U.alloc o).heap.size = U.heap.size + 1 from alloc_size U o] at h
  exact h
theorem size_set (w : World) (q : Addr) (u : Value) : (w.setCell q u).heap.size = w.heap.size := by simp [World.setCell]
theorem some_nil {a : Addr} {p : Prop} (h : some a = none) : p := by cases h
theorem s_next {w w2 w5 W V : World} {f : Nat} {y : Vl} {AT A1 A5 : Option Addr} {T : List ByteArray} {nT cT k m c1 c5 : Nat} {x : ByteArray}
    (hk : k < nT) (hmk : m ≤ k) (hnT : nT ≤ 1099511627776) (h5 : w2.heap.size + 2 ≤ w5.heap.size) (hw2 : w.heap.size < w2.heap.size) (hr : At W w.heap.size 37 #[.int .u8 0, .string ⟨#[]⟩, .slice none 0 0])
    (hv : At W w2.heap.size 29 #[.int .u16 (y.1.1 : Int), .int .u64 (y.1.2 : Int), .string y.2]) (hx : At W (w2.heap.size + 1) 37 #[.int .u8 (f : Int), .string y.2, .slice A1 m c1])
    (ht : Kd.TextsAt W W.heap.size A1 (otherT y.2 (T.take k)) m c1) (hT : Kd.TextsAt W W.heap.size AT T nT cT) (hTN : NewT (w2.heap.size + 2) AT nT) (hw : Below w.heap.size w W) (h5r : w5.heap.size ≤ W.heap.size) (hE : otherT y.2 (T.take (k + 1)) = otherT y.2 (T.take k) ++ [x]) (hsh : Kd.Short x)
    (ho : V.ownsRow W.heap.size 9 1 (.slice A5 (m + 1) c5) (m + 1) (Kd.tv (otherT y.2 (T.take k) ++ [x]))) (hb : Below W.heap.size W V) :
    SRel w w2 w5 f y AT T nT cT (.int .i64 ((k : Int) + 1)) (V.setCell ⟨w2.heap.size + 1, 2, none⟩ (.slice A5 (m + 1) c5)) := by
  have hn5 := own_new ho
  have hs : ∀ (q : Addr) (u : Value), (V.setCell q u).heap.size = V.heap.size := fun q u => by simp [World.setCell]
  refine ⟨k + 1, m + 1, c5, A5, hk, by go_num, by omega, (hr.up hb).other _ _ _ (by omega), (hv.up hb).other _ _ _ (by omega), (hx.up hb).set 2 _, ?_, hn5.less h5r, ?_, ?_, ?_⟩
  · rw [hE, hs]
    refine texts_set (own_texts ho (by rw [List.length_append, ht.len]; rfl) (fun s hs => ?_) (by omega)) (fun ad e hn => ?_) _
    · rcases List.mem_append.1 hs with h | h
      · exact ht.fit s h
      · rw [List.mem_singleton] at h
        rw [h]; exact hsh
    · have := hn5 ad e hn
      show ad.block ≠ w2.heap.size + 1
      omega
  · rw [hs]
    refine texts_set ((hT.below hb).more hb.size) (fun ad e hn => ?_) _
    have := hTN ad e hn
    show ad.block ≠ w2.heap.size + 1
    omega
  · exact (hw.trans (hb.mono hw.size)).setCell (show w.heap.size ≤ w2.heap.size + 1 by omega) _
  · rw [hs]; exact Nat.le_trans h5r hb.size

set_option maxHeartbeats 8000000 in
theorem rshow_any (w : World) (f : Nat) (A : Option Addr) (l : List Vl) (n c : Nat) (hf : f < 256) (h : ValsAt w w.heap.size A l n c) (h40 : n ≤ 1099511627776) :
    Calls Try.prog 13 #[.int .u8 (f : Int), .slice A n c] w (LinePost w (showV f l)) := by
  have H := Lib.hid h
  clear h
  have HB1 := Lib.hid (below_new w (lbox 0 ⟨#[]⟩))
  have HR1 := Lib.hid (At.new w 37 #[.int .u8 0, .string ⟨#[]⟩, .slice none 0 0])
  have CW := rwinner_any (w.alloc (lbox 0 ⟨#[]⟩)) A l n c (H.out.up HB1.out)
  by_cases h0 : n = 0
  · subst h0
    obtain rfl := List.eq_nil_of_length_eq_zero H.out.len
    go_enter Try.func13, Try.ntmps13
    go_wp2_with fail
    refine CW.mono ?_
    rintro e w2 ⟨rfl, hb⟩
    have G1 := HR1.out.up hb
    have HB2 := Lib.hid (HB1.out.trans (hb.mono HB1.out.size))
    have HB3 := Lib.hid (bel_alloc (vbox (winV [])) HB2.out)
    have G2 := G1.up (below_new w2 (vbox (winV [])))
    have G3 := G2.set 0 (.int .u8 0)
    have G4 := G3.set 1 (.string ⟨#[]⟩)
    have G5 := G4.set 2 (.slice none 0 0)
    have z0 := G2.cell 0
    have z1 := G3.cell 1
    have z2 := G4.cell 2
    have f0 := G2.frozen 0
    have f1 := G3.frozen 1
    have f2 := G4.frozen 2
    have g0 := G5.cell 0
    have g1 := G5.cell 1
    have g2 := G5.cell 2
    have e0 : decide (0 < ([] : List Vl).length) = false := rfl
    simp at z0 z1 z2 g0 g1 g2
    have HX := Lib.hid (((HB3.out.setCell (p := ⟨w.heap.size, 0, none⟩) (Nat.le_refl _) (.int .u8 0)).setCell (p := ⟨w.heap.size, 1, none⟩) (Nat.le_refl _) (.string ⟨#[]⟩)).setCell (p := ⟨w.heap.size, 2, none⟩) (Nat.le_refl _) (.slice none 0 0))
    clear hb G1 G2 G3 G4 G5
    go_wp2
    refine bodyPost_ret (v := .agg #[.int .u8 0, .string ⟨#[]⟩, .slice none 0 0]) ?_ rfl ?_
    · simp [results, Try.f13, go_sem, g0, g1, g2]
    · exact ⟨⟨0, ⟨#[]⟩, none, 0, 0⟩, rfl, ⟨rfl, (show (0 : Nat) < 256 by decide), rfl, short_empty, Kd.TextsAt.none_ _ _⟩, (fun ad e _ => by cases e), HX.out⟩
  · have hlp : 0 < l.length := by rw [H.out.len]; omega
    have hys : Hid (Kd.Short (winV l).2) := Lib.hid (H.out.fit _ (win_mem (fun e => by rw [e] at hlp; simp at hlp))).txt
    have hsv := Lib.hid (show_some (f := f) hlp)
    have hd := decide_eq_true hlp
    obtain ⟨y, hy⟩ : ∃ y, winV l = y := ⟨_, rfl⟩
    obtain ⟨T, hT⟩ : ∃ T, textsT (l.map Prod.snd) = T := ⟨_, rfl⟩
    rw [hy, hT] at hsv
    rw [hy] at hys
    rw [hy, hd] at CW
    have HT := Lib.hid hT
    clear hy hd hT
    go_enter Try.func13, Try.ntmps13
    go_wp2_with fail
    refine CW.mono ?_
    rintro e w2 ⟨rfl, hb⟩
    have HB2 := Lib.hid (HB1.out.trans (hb.mono HB1.out.size))
    have HR2 := Lib.hid (HR1.out.up hb)
    clear hb HB1 HR1
    have HB4 : Hid (Below w2.heap.size w2 ((w2.alloc (vbox y)).alloc (lbox f y.2))) := Lib.hid (below_new2 _ _ _)
    have HV4 : Hid (At ((w2.alloc (vbox y)).alloc (lbox f y.2)) w2.heap.size 29 #[.int .u16 (y.1.1 : Int), .int .u64 (y.1.2 : Int), .string y.2]) := Lib.hid ((At.new w2 _ _).up (below_new _ _))
    have HX4 : Hid (At ((w2.alloc (vbox y)).alloc (lbox f y.2)) (w2.heap.size + 1) 37 #[.int .u8 (f : Int), .string y.2, .slice none 0 0]) := Lib.hid (by
      have h := At.new (w2.alloc (vbox y)) 37 #[.int .u8 (f : Int), .string y.2, .slice none 0 0]
      rw [alloc_size] at h
      exact h)
    have hs4 : ((w2.alloc (vbox y)).alloc (lbox f y.2)).heap.size = w2.heap.size + 2 := by rw [alloc_size, alloc_size]
    go_wp2_with fail
    refine (rtexts_any _ A l n c ((H.out.up HB2.out).up HB4.out) h40).mono ?_
    rintro e w5 ⟨AT, nT, cT, rfl, hT, hTn, hb⟩
    have HB5 := Lib.hid (HB2.out.trans ((HB4.out.trans (hb.mono HB4.out.size)).mono HB2.out.size))
    have HV5 := Lib.hid (HV4.out.up hb)
    have HX5 := Lib.hid (HX4.out.up hb)
    have HR5 := Lib.hid ((HR2.out.up HB4.out).up hb)
    have h5 : w2.heap.size + 2 ≤ w5.heap.size := by rw [← hs4]; exact hb.size
    have hw2 : w.heap.size < w2.heap.size := HR2.out.lt
    have HT5 := Lib.hid hT
    have HTN := Lib.hid hTn
    rw [hs4] at HTN
    rw [HT.out] at HT5
    clear hb hT hTn hs4 HB4 HV4 HX4 HB2 HR2
    have hnT : nT ≤ n := by
      have h1 := texts_long (l.map Prod.snd)
      rw [HT.out, HT5.out.len, List.length_map, H.out.len] at h1
      exact h1
    clear HT H CW
    go_wp2_with fail
    go_loopw [9] (fun i wr => SRel w w2 w5 f y AT T nT cT i wr) (fun i _ => nT - (intOf i).toNat)
    case atStart => exact ⟨0, 0, 0, none, Nat.zero_le _, rfl, Nat.le_refl _, HR5.out, HV5.out, HX5.out, by rw [List.take_zero, other_nil]; exact Kd.TextsAt.none_ _ _, (fun ad e _ => by cases e), HT5.out.more (Nat.le_refl _), HB5.out, Nat.le_refl _⟩
    case round =>
      clear HR5 HV5 HX5 HT5
      obtain ⟨k, m, c1, A1, hk, rfl, hmk, hr, hv, hx, ht, hn, hT, hw, h5r⟩ := hrel
      have HR := Lib.hid hr
      have HV := Lib.hid hv
      have HX := Lib.hid hx
      have HM := Lib.hid ht
      have HN := Lib.hid hn
      have HTT := Lib.hid hT
      have HW := Lib.hid hw
      have v2 := hv.cell 2
      have x2 := hx.cell 2
      simp at v2 x2
      clear hr hv hx ht hn hT hw
      by_cases hlt : k < nT
      · obtain ⟨ad, x, rfl, _, hlx, hsh, hc⟩ := HTT.out.at_ hlt
        have hq := Kd.eq_texts x y.2
        by_cases hxy : x = y.2
        · rw [decide_eq_true hxy] at hq
          have HE := Lib.hid (other_skip hlx hxy)
          clear hlx hxy
          go_wp2_with fail
          go_quiet (fail)
          go_wp2
          go_roundw
          case rel =>
            have hbn := below_drewN wr.heap.size wr nq
            exact ⟨k + 1, m, c1, A1, by omega, by go_num, by omega, HR.out.up hbn, HV.out.up hbn, HX.out.up hbn, by rw [HE.out]; exact HM.out.below hbn, HN.out, HTT.out.below hbn, Kd.bel_drewN HW.out _, h5r⟩
          case measure => simp [intOf]; omega
        · rw [decide_eq_false hxy] at hq
          have HE := Lib.hid (other_keep hlx hxy)
          clear hlx hxy
          go_wp2_with fail
          go_quiet (fail)
          go_wp2_with fail
          have hbn := below_drewN wr.heap.size wr nq
          have hsn : (wr.drewN nq).heap.size = wr.heap.size := rfl
          have HR' := Lib.hid (HR.out.up hbn)
          have HV' := Lib.hid (HV.out.up hbn)
          have HX' := Lib.hid (HX.out.up hbn)
          have HM' : Hid (Kd.TextsAt (wr.drewN nq) (wr.drewN nq).heap.size A1 (otherT y.2 (T.take k)) m c1) := Lib.hid (HM.out.below hbn)
          have HTT' : Hid (Kd.TextsAt (wr.drewN nq) (wr.drewN nq).heap.size (some ad) T nT cT) := Lib.hid (HTT.out.below hbn)
          have HW' := Lib.hid (Kd.bel_drewN HW.out nq)
          have hc' := stays hbn hc
          rw [← hsn] at h5r
          clear HR HV HX HM HTT HW hc v2 x2 hbn hsn
          generalize wr.drewN nq = W at *
          have HC : Hid (∀ V, Below W.heap.size W V → V.cell? (ad.add k) = some (.string x) ∧ V.cell? ⟨w2.heap.size + 1, 2, none⟩ = some (.slice A1 m c1) ∧ V.frozen? ⟨w2.heap.size + 1, 2, none⟩ = false) := Lib.hid (fun V hV => by
            have h := HX'.out.up hV
            have h2 := h.cell 2
            simp at h2
            exact ⟨stays hV hc', h2, h.frozen 2⟩)
          have hmn : m + 1 ≤ 8796093022208 := by omega
          have hmn0 : m ≤ 8796093022208 := by omega
          obtain ⟨d1, d2, d3⟩ := HC.out W (Below.refl _ _)
          obtain ⟨p1, p2, p3⟩ := HC.out (W.alloc (.cells #[] 9)) ((Below.refl _ _).alloc (Nat.le_refl _) _)
          obtain ⟨q1, q2, q3⟩ := HC.out (W.alloc (.cells #[.string x] 9)) ((Below.refl _ _).alloc (Nat.le_refl _) _)
          obtain ⟨r1, r2, r3⟩ := HC.out ((W.alloc (.cells #[] 9)).alloc (.cells #[.string x] 9)) (bel_alloc _ ((Below.refl _ _).alloc (Nat.le_refl _) _))
          obtain ⟨s1, s2, s3⟩ := HC.out ((W.alloc (.cells #[.string x] 9)).alloc (.cells #[] 9)) (bel_alloc _ ((Below.refl _ _).alloc (Nat.le_refl _) _))
          go_region_law (first
            | (refine step_text rfl (.tmp 37) (.tmp 39) rfl rfl _ W 0 m (.slice (some ⟨_, 0, none⟩) 0 0) [] A1 _ m c1 rfl rfl ?_ ?_ HM'.out.nil ?_ HM'.out.len (Nat.zero_add _) hmn0 ?_; (focus ((repeat (first | exact Below.refl _ _ | assumption | apply bel_drew | apply bel_alloc)); done)); (focus ((first | refine own_lit ?_ | refine own_lit2 ?_ _ | refine own_lit3 ?_ _); (repeat (first | exact Below.refl _ _ | assumption | apply bel_drew | apply bel_alloc)); done)); (focus (refine (HM'.out.up ?_).cells; (repeat (first | exact Below.refl _ _ | assumption | apply bel_drew | apply bel_alloc)); done)); intro A3 c3 V3 ho3 hg3 hb3; have HO3 := Lib.hid ho3; obtain ⟨t1, t2, t3⟩ := HC.out V3 hb3; (first | have HL := Lib.hid (lies_c (grown_undrew hg3)) | have HL := Lib.hid (lies_b (grown_undrew hg3)) | have HL := Lib.hid (lies_c hg3) | have HL := Lib.hid (lies_b hg3) | skip); clear ho3 hg3)
            | (refine step_text rfl (.tmp 40) (.tmp 45) rfl rfl _ W m (m + 1) (.slice _ m _) (otherT y.2 (T.take k)) (some ⟨_, 0, none⟩) [x] 1 1 rfl rfl ?_ ?_ some_nil ?_ rfl rfl hmn ?_; (focus ((repeat (first | exact Below.refl _ _ | assumption | apply bel_drew | apply bel_alloc)); done)); (focus (first | exact HO3.out | exact HO3.out.alloc _)); (focus (first | exact HL.out | exact lies_text _ x)); intro A5 c5 V5 ho5 hg5 hb5; have HO5 := Lib.hid ho5; obtain ⟨e1, e2, e3⟩ := HC.out V5 hb5; clear ho5 hg5))
          all_goals
            have HR := Lib.hid (s_next hlt hmk (Nat.le_trans hnT h40) h5 hw2 HR'.out HV'.out HX'.out HM'.out HTT'.out HTN.out HW'.out h5r HE.out hsh HO5.out hb5)
            clear HR' HV' HX' HM' HTT' HW' HO5 HO3 HE HN HTN HC hb5 hb3 hc' d1 d2 d3 e1 e2 e3 t1 t2 t3 p1 p2 p3 q1 q2 q3 r1 r2 r3 s1 s2 s3
            go_wp2
            go_roundw
            case rel => exact HR.out
            case measure => simp [intOf]; omega
      · obtain rfl : k = nT := by omega
        have G3 := HR.out.set 0 (.int .u8 (f : Int))
        have G4 := G3.set 1 (.string y.2)
        have G5 := G4.set 2 (.slice A1 m c1)
        have x0 := HX.out.cell 0
        have x1 := HX.out.cell 1
        have z0 := HR.out.cell 0
        have z1 := G3.cell 1
        have z2 := G4.cell 2
        have f0 := HR.out.frozen 0
        have f1 := G3.frozen 1
        have f2 := G4.frozen 2
        have g0 := G5.cell 0
        have g1 := G5.cell 1
        have g2 := G5.cell 2
        simp at x0 x1 z0 z1 z2 g0 g1 g2
        have hne : ∀ ad, A1 = some ad → 0 < m → ad.block ≠ w.heap.size := fun ad e hm => by
          have := HN.out ad e hm
          omega
        have HBX : Hid (Below w.heap.size w (((wr.setCell ⟨w.heap.size, 0, none⟩ (.int .u8 (f : Int))).setCell ⟨w.heap.size, 1, none⟩ (.string y.2)).setCell ⟨w.heap.size, 2, none⟩ (.slice A1 m c1))) :=
          Lib.hid (((HW.out.setCell (Nat.le_refl _) _).setCell (Nat.le_refl _) _).setCell (Nat.le_refl _) _)
        have HTX : Hid (Kd.TextsAt (((wr.setCell ⟨w.heap.size, 0, none⟩ (.int .u8 (f : Int))).setCell ⟨w.heap.size, 1, none⟩ (.string y.2)).setCell ⟨w.heap.size, 2, none⟩ (.slice A1 m c1)) (((wr.setCell ⟨w.heap.size, 0, none⟩ (.int .u8 (f : Int))).setCell ⟨w.heap.size, 1, none⟩ (.string y.2)).setCell ⟨w.heap.size, 2, none⟩ (.slice A1 m c1)).heap.size A1 (otherT y.2 T) m c1) := Lib.hid (by
          have h := HM.out
          rw [List.take_of_length_le (by rw [HTT.out.len]; exact Nat.le_refl _)] at h
          rw [size_set, size_set, size_set]
          exact texts_set (texts_set (texts_set h hne _) hne _) hne _)
        clear G3 G4 G5
        go_wp2
        refine bodyPost_ret (v := .agg #[.int .u8 (f : Int), .string y.2, .slice A1 m c1]) ?_ rfl ?_
        · simp [results, Try.f13, go_sem, g0, g1, g2]
        · rw [hsv.out]
          exact ⟨⟨f, y.2, A1, m, c1⟩, rfl, ⟨rfl, hf, rfl, hys.out, HTX.out⟩, HN.out.less (by omega), HBX.out⟩
end Go.Proofs.Ytdmjhaifilfniaa.Rg
