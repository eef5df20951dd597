/- The walk of RegOrder. -/
import Derived.Test.YtdmjhaifilfniaaGApp
import Derived.Test.YtdmjhaifilfniaaGShowsW
namespace Go.Proofs.Ytdmjhaifilfniaa.Rg
open Go.ChangeShapes Go.WideShapes Go.ChangeAt Go.RowKit
set_option linter.unusedVariables false

/-- the place where a turned list finds its k-th value. -/
def plc (n g k : Nat) : Nat := (n - 1 - k + g) % n
theorem plc_lt {n g k : Nat} (h : 0 < n) : plc n g k < n := Nat.mod_lt _ h
theorem plc_back {n g p : Nat} (hp : p < n) : plc n g (plc n g p) = p := by
  unfold plc
  have hn : 0 < n := by omega
  have h1 := Nat.div_add_mod (n - 1 - p + g) n
  have h2 := Nat.mod_lt (n - 1 - p + g) hn
  obtain ⟨q, hq⟩ : ∃ q, (n - 1 - p + g) / n = q := ⟨_, rfl⟩
  obtain ⟨r, hr⟩ : ∃ r, (n - 1 - p + g) % n = r := ⟨_, rfl⟩
  rw [hq, hr] at h1
  rw [hr] at h2 ⊢
  have e : n - 1 - r + g = p + n * q := by omega
  rw [e, Nat.add_mul_mod_self_left, Nat.mod_eq_of_lt hp]
/-- the list turned, its first k values. -/
def turnV (l : List Vl) (g k : Nat) : List Vl := (List.range k).filterMap (fun j => l[plc l.length g j]?)
theorem turn_next {l : List Vl} {g k : Nat} {x : Vl} (h : l[plc l.length g k]? = some x) : turnV l g (k + 1) = turnV l g k ++ [x] := by
  unfold turnV
  rw [List.range_succ, List.filterMap_append]
  simp [h]
theorem turn_fit {l : List Vl} {g k : Nat} {p : Vl → Prop} (h : ∀ x ∈ l, p x) : ∀ x ∈ turnV l g k, p x := by
  intro x hx
  unfold turnV at hx
  obtain ⟨j, _, hj⟩ := List.mem_filterMap.1 hx
  exact h x (List.mem_of_getElem? hj)
theorem turn_mem {l : List Vl} {g : Nat} (x : Vl) : x ∈ l ↔ x ∈ turnV l g l.length := by
  constructor
  · intro hx
    obtain ⟨p, hp, e⟩ := List.mem_iff_getElem.1 hx
    unfold turnV
    refine List.mem_filterMap.2 ⟨plc l.length g p, List.mem_range.2 (plc_lt (by omega)), ?_⟩
    rw [plc_back hp, List.getElem?_eq_getElem hp, e]
  · exact turn_fit (p := fun x => x ∈ l) (fun x hx => hx) x
/-- the dots of the first k values are unlike. -/
def DotsNe (l : List Vl) (k : Nat) : Prop := ∀ (a b : Nat) (x y : Vl), a < k → b < a → l[a]? = some x → l[b]? = some y → x.1 ≠ y.1
theorem ne_next {l : List Vl} {k : Nat} {x : Vl} (h : DotsNe l k) (hx : l[k]? = some x) (hn : ∀ (b : Nat) (y : Vl), b < k → l[b]? = some y → x.1 ≠ y.1) : DotsNe l (k + 1) := by
  intro a b u v ha hb hu hv
  rcases Nat.lt_or_ge a k with hl | hl
  · exact h a b u v hl hb hu hv
  · obtain rfl : a = k := by omega
    rw [hx] at hu
    obtain rfl := Option.some.inj hu
    exact hn b v hb hv
theorem ne_all {l : List Vl} (h : DotsNe l l.length) : ∀ x y, x ∈ l → y ∈ l → x.1 = y.1 → x = y := by
  intro x y hx hy e
  obtain ⟨a, ha, rfl⟩ := List.mem_iff_getElem.1 hx
  obtain ⟨b, hb, rfl⟩ := List.mem_iff_getElem.1 hy
  rcases Nat.lt_trichotomy a b with hl | hl | hl
  · exact absurd e.symm (h b a _ _ hb hl (List.getElem?_eq_getElem hb) (List.getElem?_eq_getElem ha))
  · subst hl; rfl
  · exact absurd e (h a b _ _ ha hl (List.getElem?_eq_getElem ha) (List.getElem?_eq_getElem hb))
theorem turn_show {f g : Nat} {l : List Vl} (h : DotsNe l l.length) : showV f l = showV f (turnV l g l.length) := show_same (fun x => turn_mem x) (ne_all h)
theorem ne_more {l : List Vl} {q : Nat} {x z : Vl} (h : ∀ (b : Nat) (y : Vl), b < q → l[b]? = some y → x.1 ≠ y.1) (hz : l[q]? = some z) (hn : x.1 ≠ z.1) : ∀ (b : Nat) (y : Vl), b < q + 1 → l[b]? = some y → x.1 ≠ y.1 := by
  intro b y hb hy
  rcases Nat.lt_or_ge b q with hl | hl
  · exact h b y hl hy
  · obtain rfl : b = q := by omega
    rw [hz] at hy
    obtain rfl := Option.some.inj hy
    exact hn
theorem own_long {w : World} {B n c : Nat} {A : Option Addr} {l : List Vl} (h : w.ownsRow B 29 3 (.slice A n c) n (vv l)) : l.length = n := by
  have h1 := h.1
  rw [vv_length] at h1
  omega
theorem show_ord (f : Nat) (l : List Vl) : OrdT (showV f l).2.2 := by
  cases l with
  | nil => exact List.Pairwise.nil
  | cons a l => exact other_ord (texts_ord _)
theorem show_ne (f : Nat) (l : List Vl) : ∀ x ∈ (showV f l).2.2, x ≠ (showV f l).2.1 := by
  cases l with
  | nil => intro x hx; cases hx
  | cons a l => intro x hx; exact (other_mem.1 hx).2
/-- each text is shown, or stands beside it, just once. -/
theorem show_cnt (f : Nat) (l : List Vl) : (textsT (l.map Prod.snd)).length = 0 ∨ (showV f l).2.2.length + 1 = (textsT (l.map Prod.snd)).length := by
  cases l with
  | nil => exact .inl rfl
  | cons a l =>
    right
    have hm : (winV (a :: l)).2 ∈ textsT ((a :: l).map Prod.snd) := (texts_mem _ _).2 (List.mem_map.2 ⟨_, win_mem (by simp), rfl⟩)
    exact other_len (texts_ord _) hm
theorem ord_at {l : List ByteArray} (h : OrdT l) {k : Nat} {x y : ByteArray} (hk : 0 < k) (hx : l[k]? = some x) (hy : l[k - 1]? = some y) : Op.bytesLess y.toList x.toList = true := by
  obtain ⟨h1, e1⟩ := List.getElem?_eq_some_iff.1 hx
  obtain ⟨h2, e2⟩ := List.getElem?_eq_some_iff.1 hy
  have := List.pairwise_iff_getElem.1 h (k - 1) k h2 h1 (by omega)
  rw [e1, e2] at this
  exact this
theorem one_line1 (V : World) (o : Obj) (f : Nat) (s : ByteArray) (A : Option Addr) (n c : Nat) (x : Kd.Ln) (h : Kd.LineIs V V.heap.size ⟨f, s, A, n, c⟩ x) : Kd.LinesAt ((V.alloc o).alloc (.cells #[.int .u8 (f : Int), .string s, .slice A n c] 37)) ((V.alloc o).alloc (.cells #[.int .u8 (f : Int), .string s, .slice A n c] 37)).heap.size (some ⟨V.heap.size + 1, 0, none⟩) [x] 1 1 := by
  have h := one_line (V.alloc o) f s A n c x ((h.below (below_new V o)).more_ (below_new V o).size)
  rw [show (V.alloc o).heap.size = V.heap.size + 1 from alloc_size V o] at h
  exact h
/-- a turned list while it is laid. -/
def ORel (w : World) (n : Nat) (l : List Vl) (g : Nat) (v i : Value) (wr : World) : Prop :=
  ∃ (k c1 : Nat) (A1 : Option Addr), k ≤ n ∧ i = .int .i64 (k : Int) ∧ v = .slice A1 k c1 ∧ wr.ownsRow w.heap.size 29 3 (.slice A1 k c1) k (vv (turnV l g k)) ∧ DotsNe l k ∧ Below w.heap.size w wr

set_option maxHeartbeats 8000000 in
theorem order_walk (P : PReg) (w : World) (f g : Nat) (A : Option Addr) (l : List Vl) (n c : Nat) (hf : f < 256) (hg : g < 256) (h : ValsAt w w.heap.size A l n c) :
    Calls Try.prog 4 #[.int .u8 (f : Int), .slice A n c, .int .u8 (g : Int)] w fun e w' => e = .returned (.bool true) ∧ Below w.heap.size w w' := by
  have H := Lib.hid h
  have h63 : n ≤ 281474976710656 := Nat.le_trans h.wide (by decide)
  clear h
  by_cases hn : 60 < n
  · go_enter Try.func4, Try.ntmps4
    go_wp2_with fail
    refine (works_any P _).mono ?_
    rintro e w1 ⟨rfl, hb⟩
    have HB := Lib.hid hb
    clear hb
    go_wp2
    go_ret
    exact ⟨rfl, HB.out⟩
  · have hn1 : n ≤ 60 := by omega
    have hb60 : ((60 : Int) < (n : Int)) = False := by simp; omega
    have hd60 : decide (60 < n) = false := decide_eq_false hn
    go_enter Try.func4, Try.ntmps4
    go_wp2_with fail
    go_loopw [7, 8] (fun v i wr => ORel w n l g v i wr) (fun _ i _ => n - (intOf i).toNat)
    case atStart => exact ⟨0, 0, none, Nat.zero_le _, rfl, rfl, World.ownsRow_nil _ _ _ _, (fun a b x y ha => by omega), Below.refl _ _⟩
    case round =>
      obtain ⟨k, c1, A1, hk, rfl, rfl, ho, hd, hw⟩ := hrel
      rename World => W0
      have HO := Lib.hid ho
      have HD := Lib.hid hd
      have HW := Lib.hid hw
      clear ho hd hw
      by_cases hlt : k < n
      · obtain ⟨ad, x, rfl, _, hlx, hfx, hcx⟩ := H.out.at_ hlt
        have HX := Lib.hid (hcx.kept HW.out)
        have HLX := Lib.hid hlx
        clear hlx hcx
        go_wp2_with fail
        go_loopw [9] (fun j V => ∃ q : Nat, q ≤ k ∧ j = .int .i64 (q : Int) ∧ (∀ (b : Nat) (y : Vl), b < q → l[b]? = some y → x.1 ≠ y.1) ∧ ∃ m, V = W0.drewN m) (fun j _ => k - (intOf j).toNat)
        case atStart => exact ⟨0, Nat.zero_le _, rfl, (fun b y hb => by omega), 0, rfl⟩
        case round =>
          obtain ⟨q, hq, rfl, hne, hV⟩ := hrel
          have HNE := Lib.hid hne
          have HV := Lib.hid hV
          have HVB : Hid (Below W0.heap.size W0 wr) := Lib.hid (by obtain ⟨m, rfl⟩ := hV; exact below_drewN _ _ _)
          clear hne hV
          by_cases hq2 : q < k
          · obtain ⟨ad', z, e, _, hlz, hfz, hcz⟩ := H.out.at_ (show q < n by omega)
            cases e
            obtain ⟨x0, x1, _⟩ := HX.out.kept HVB.out
            obtain ⟨z0, z1, _⟩ := (hcz.kept HW.out).kept HVB.out
            have HLZ := Lib.hid hlz
            clear hlz
            by_cases hdv : x.1.1 = z.1.1
            · by_cases hnm : x.1.2 = z.1.2
              · have e1 : ((x.1.1 : Int) == (z.1.1 : Int)) = true := by rw [beq_iff_eq]; omega
                have e2 : ((x.1.2 : Int) == (z.1.2 : Int)) = true := by rw [beq_iff_eq]; omega
                clear hdv hnm
                go_wp2_with fail
                go_quiet (fail)
                go_wp2_with fail
                refine (works_any P _).mono ?_
                rintro e w1 ⟨rfl, hb⟩
                have hwb := Kd.bel_drewN (HW.out.trans (HVB.out.mono HW.out.size)) nq
                have HB := Lib.hid (hwb.trans (hb.mono hwb.size))
                clear hb hwb
                go_wp2
                go_ret
                exact ⟨rfl, HB.out⟩
              · have e1 : ((x.1.1 : Int) == (z.1.1 : Int)) = true := by rw [beq_iff_eq]; omega
                have e2 := Kd.beq_nat hnm
                have HR : Hid (∀ (b : Nat) (y : Vl), b < q + 1 → l[b]? = some y → x.1 ≠ y.1) := Lib.hid (ne_more HNE.out HLZ.out (fun e => hnm (by rw [e])))
                clear hdv hnm
                go_wp2_with fail
                go_quiet (fail)
                go_wp2
                go_roundw
                case rel => exact ⟨q + 1, by omega, by go_num, HR.out, Kd.drew_more HV.out _⟩
                case measure => simp [intOf]; omega
            · have e1 := Kd.beq_nat hdv
              have HR : Hid (∀ (b : Nat) (y : Vl), b < q + 1 → l[b]? = some y → x.1 ≠ y.1) := Lib.hid (ne_more HNE.out HLZ.out (fun e => hdv (by rw [e])))
              clear hdv
              go_wp2_with fail
              go_quiet (fail)
              go_wp2
              go_roundw
              case rel => exact ⟨q + 1, by omega, by go_num, HR.out, Kd.drew_more HV.out _⟩
              case measure => simp [intOf]; omega
          · obtain rfl : q = k := by omega
            obtain ⟨ad2, u, e, _, hlu, hfu, hcu⟩ := H.out.at_ (show (n - 1 - q + g) % n < n from Nat.mod_lt _ (by omega))
            cases e
            obtain ⟨u0, u1, u2⟩ := (hcu.kept HW.out).kept HVB.out
            have HTN := Lib.hid (turn_next (l := l) (g := g) (k := q) (x := u) (by unfold plc; rw [H.out.len]; exact hlu))
            have HOV := Lib.hid (Dt.own_kept HO.out HVB.out)
            have HWV := Lib.hid (HW.out.trans (HVB.out.mono HW.out.size))
            have HWA := Lib.hid (bel_alloc (vbox u) HWV.out)
            have HNX := Lib.hid (ne_next HD.out HLX.out HNE.out)
            have HLO : Hid (q + 1 ≤ 4398046511104) := Lib.hid (by omega)
            have hr0 : (0 : Int) ≤ ((n : Int) - 1 - (q : Int) + (g : Int)) % (n : Int) := Int.emod_nonneg _ (by omega)
            have hr1 : ((n : Int) - 1 - (q : Int) + (g : Int)) % (n : Int) < (n : Int) := Int.emod_lt_of_pos _ (by omega)
            clear hlu hcu hfu
            go_wp2_with (at_builtin; refine wpList_val rfl (.tmp 41) (.tmp 56) rfl rfl _ w.heap.size q (.slice A1 q c1) (turnV l g q) ⟨wr.heap.size, 0, none⟩ [u] 1 1 rfl rfl (HOV.out.alloc _) (val_cells wr u) rfl HLO.out HWA.out.size ?_; intro A3 c3 V3 ho3 hg3; have HO3 := Lib.hid ho3; have HW3 := Lib.hid (val_grown (HOV.out.alloc _) HWA.out hg3); clear ho3 hg3)
            go_roundw
            case rel => exact ⟨q + 1, c3, A3, by omega, by go_num, rfl, by rw [HTN.out]; exact HO3.out, HNX.out, HW3.out⟩
            case measure => simp [intOf]; omega
      · obtain rfl : k = n := by omega
        have hmn : (turnV l g k).length = k := own_long HO.out
        have HM := Lib.hid (own_vals HO.out hmn (turn_fit H.out.fit) (by omega))
        have hsl := H.out.len
        have HSS : Hid (showV f l = showV f (turnV l g k)) := Lib.hid (by
          have hd := HD.out
          rw [← hsl] at hd ⊢
          exact turn_show hd)
        have CS := P.shows W0 f A l k c hf (H.out.up HW.out) (by omega)
        clear HO HD
        go_wp2_with fail
        refine CS.mono ?_
        rintro e w1 ⟨⟨p0, p1, p2, p3, p4⟩, rfl, hp, hb1⟩
        have HW1 := Lib.hid (HW.out.trans (hb1.mono HW.out.size))
        have CS2 := P.shows w1 f A1 (turnV l g k) k c1 hf (HM.out.up hb1) (by omega)
        rw [← HSS.out] at CS2
        have HP1 := Lib.hid hp
        clear hp hb1 CS
        go_wp2_with fail
        refine CS2.mono ?_
        rintro e w2 ⟨⟨q0, q1, q2, q3, q4⟩, rfl, hq, hb2⟩
        have HW2 := Lib.hid (HW1.out.trans (hb2.mono HW1.out.size))
        have HQ2 := Lib.hid hq
        have HP2 := Lib.hid ((HP1.out.below hb2).more_ hb2.size)
        clear hq hb2 CS2 HM HP1
        have HB4 := Lib.hid (below_new2 w2 (.cells #[.int .u8 (p0 : Int), .string p1, .slice p2 p3 p4] 37) (.cells #[.int .u8 (q0 : Int), .string q1, .slice q2 q3 q4] 37))
        have HX4 := Lib.hid (At.up (At.new w2 37 #[.int .u8 (p0 : Int), .string p1, .slice p2 p3 p4]) (below_new _ (.cells #[.int .u8 (q0 : Int), .string q1, .slice q2 q3 q4] 37)))
        have HY4 : Hid (At ((w2.alloc (.cells #[.int .u8 (p0 : Int), .string p1, .slice p2 p3 p4] 37)).alloc (.cells #[.int .u8 (q0 : Int), .string q1, .slice q2 q3 q4] 37)) (w2.heap.size + 1) 37 #[.int .u8 (q0 : Int), .string q1, .slice q2 q3 q4]) := Lib.hid (by
          have h := At.new (w2.alloc (.cells #[.int .u8 (p0 : Int), .string p1, .slice p2 p3 p4] 37)) 37 #[.int .u8 (q0 : Int), .string q1, .slice q2 q3 q4]
          rw [alloc_size] at h
          exact h)
        have CT := P.texts ((w2.alloc (.cells #[.int .u8 (p0 : Int), .string p1, .slice p2 p3 p4] 37)).alloc (.cells #[.int .u8 (q0 : Int), .string q1, .slice q2 q3 q4] 37)) A l k c ((H.out.up HW2.out).up HB4.out) (by omega)
        go_wp2_with fail
        refine CT.mono ?_
        rintro e w3 ⟨A3, n3, c3, rfl, ht3, hb3⟩
        have HW3 := Lib.hid ((HW2.out.trans (HB4.out.mono HW2.out.size)).trans (hb3.mono (Nat.le_trans HW2.out.size HB4.out.size)))
        have HX3 := Lib.hid (HX4.out.up hb3)
        have HY3 := Lib.hid (HY4.out.up hb3)
        have HP3 := Lib.hid (((HP2.out.below HB4.out).more_ HB4.out.size).below hb3 |>.more_ hb3.size)
        have HQ3 := Lib.hid (((HQ2.out.below HB4.out).more_ HB4.out.size).below hb3 |>.more_ hb3.size)
        have HN3 : Hid (n3 = (textsT (l.map Prod.snd)).length) := Lib.hid ht3.len.symm
        clear ht3 hb3 CT HX4 HY4 HB4 HP2 HQ2 HW2 HW1 HW
        have hcnt := show_cnt f l
        rw [← HN3.out] at hcnt
        have HO := Lib.hid (show_ord f l)
        have HNE := Lib.hid (show_ne f l)
        obtain ⟨X, hX⟩ : ∃ X, showV f l = X := ⟨_, rfl⟩
        rw [hX] at HP3 HQ3 HO HNE hcnt
        clear hX HN3 HSS
        obtain ⟨X0, X1, X2⟩ := X
        obtain rfl : p0 = X0 := HP3.out.fld
        obtain rfl : p1 = X1 := HP3.out.txt
        have hp3 : p3 = X2.length := HP3.out.more.len.symm
        have hpw : p3 ≤ 281474976710656 := Nat.le_trans HP3.out.more.wide (by decide)
        go_wp2_with fail
        go_loopw [13] (fun j V => ∃ i : Nat, i ≤ p3 ∧ j = .int .i64 (i : Int) ∧ ∃ m, V = w3.drewN m) (fun j _ => p3 - (intOf j).toNat)
        case atStart => exact ⟨0, Nat.zero_le _, rfl, 0, rfl⟩
        case round =>
          obtain ⟨i, hi, rfl, hV⟩ := hrel
          have HV := Lib.hid hV
          have HVB : Hid (Below w3.heap.size w3 wr) := Lib.hid (by obtain ⟨m, rfl⟩ := hV; exact below_drewN _ _ _)
          clear hV
          have HXV := Lib.hid (HX3.out.up HVB.out)
          have HYV := Lib.hid (HY3.out.up HVB.out)
          have HPV := Lib.hid ((HP3.out.below HVB.out).more_ HVB.out.size)
          have HQV := Lib.hid ((HQ3.out.below HVB.out).more_ HVB.out.size)
          have x0 := HXV.out.cell 0
          have x1 := HXV.out.cell 1
          have x2 := HXV.out.cell 2
          have y0 := HYV.out.cell 0
          have y1 := HYV.out.cell 1
          have y2 := HYV.out.cell 2
          simp at x0 x1 x2 y0 y1 y2
          by_cases hlt : i < p3
          · clear y0 y1 y2
            have HMV : Hid (Kd.TextsAt wr wr.heap.size p2 X2 p3 p4) := Lib.hid HPV.out.more
            obtain ⟨a2, x, rfl, _, hlx, _, hc⟩ := HMV.out.at_ hlt
            have hq := Kd.eq_texts x p1
            rw [decide_eq_false (HNE.out x (List.mem_of_getElem? hlx))] at hq
            by_cases h0 : i = 0
            · subst h0
              have hc0 : wr.cell? a2 = some (.string x) := by simpa [Addr.add] using hc
              clear hlx
              go_wp2_with fail
              go_quiet (fail)
              go_wp2
              go_roundw
              case rel => exact ⟨1, by omega, rfl, Kd.drew_more HV.out _⟩
              case measure => simp [intOf]; omega
            · have hd0 : decide (0 < i) = true := decide_eq_true (by omega)
              obtain ⟨a3, y, e3, _, hly, _, hc2⟩ := HMV.out.at_ (show i - 1 < p3 by omega)
              obtain rfl := Option.some.inj e3
              have hl := ord_at HO.out (by omega) hlx hly
              have hw1 : IntKind.i64.wrap ((i : Int) - 1) = (i : Int) - 1 := IntWalk.i64_in _ (by omega)
              have hw2 : 1 ≤ (i : Int) := by omega
              have hw3 : 0 ≤ (i : Int) - 1 := by omega
              have hw4 : ((i : Int) - 1).toNat = i - 1 := by omega
              have hw5 : i - 1 < p3 := by omega
              have hw6 : (i : Int) - 1 < (p3 : Int) := by omega
              have hw7 : 0 < i := by omega
              have hw8 : 1 ≤ i := by omega
              clear hlx hly
              go_wp2_with fail
              go_quiet (fail)
              go_wp2
              go_roundw
              case rel => exact ⟨i + 1, by omega, by go_num, Kd.drew_more HV.out _⟩
              case measure => simp [intOf]; omega
          · obtain rfl : i = p3 := by omega
            have HWV := Lib.hid (HW3.out.trans (HVB.out.mono HW3.out.size))
            have HBL := Lib.hid (below_new2 wr (.cells #[.int .u8 (p0 : Int), .string p1, .slice p2 i p4] 37) (.cells #[.int .u8 (q0 : Int), .string q1, .slice q2 q3 q4] 37))
            have CL := Kd.rlines_any ((wr.alloc (.cells #[.int .u8 (p0 : Int), .string p1, .slice p2 i p4] 37)).alloc (.cells #[.int .u8 (q0 : Int), .string q1, .slice q2 q3 q4] 37)) _ _ _ _ [(p0, p1, X2)] [(p0, p1, X2)] 1 1 1 1 (lines_up (one_line wr p0 p1 p2 i p4 _ HPV.out) (below_new _ _)) (one_line1 wr (.cells #[.int .u8 (p0 : Int), .string p1, .slice p2 i p4] 37) q0 q1 q2 q3 q4 _ HQV.out)
            rw [decide_eq_true rfl] at CL
            have HBW := Lib.hid (HWV.out.trans (HBL.out.mono HWV.out.size))
            have z2 := (HXV.out.up HBL.out).cell 2
            have HY1 := HYV.out.up (below_new wr (.cells #[.int .u8 (p0 : Int), .string p1, .slice p2 i p4] 37))
            have r0 := HY1.cell 0
            have r1 := HY1.cell 1
            have r2 := HY1.cell 2
            simp at z2 r0 r1 r2
            have hcn : n3 = 0 ∨ i + 1 = n3 := by omega
            clear HX3 HY3 HP3 HQ3 HXV HYV HPV HQV HO HNE HY1 hp3 hcnt
            by_cases hz : n3 = 0
            · have e1 : ((n3 : Int) == 0) = true := by rw [beq_iff_eq]; omega
              go_wp2_with fail
              refine CL.mono ?_
              rintro e w5 ⟨rfl, m5, rfl⟩
              have HB5 := Lib.hid (Kd.bel_drewN HBW.out m5)
              go_wp2_with fail
              refine (works_any P _).mono ?_
              rintro e w6 ⟨rfl, hb⟩
              have HB6 := Lib.hid (HB5.out.trans (hb.mono HB5.out.size))
              clear hb
              go_wp2
              go_ret
              exact ⟨rfl, HB6.out⟩
            · have e1 : ((n3 : Int) == 0) = false := by rw [beq_eq_false_iff_ne]; omega
              have hpn : i + 1 = n3 := by omega
              have hw1 : IntKind.i64.wrap ((n3 : Int) - 1) = (n3 : Int) - 1 := IntWalk.i64_in _ (by omega)
              have e2 : ((i : Int) == (n3 : Int) - 1) = true := by rw [beq_iff_eq]; omega
              go_wp2_with fail
              refine CL.mono ?_
              rintro e w5 ⟨rfl, m5, rfl⟩
              have HB5 := Lib.hid (Kd.bel_drewN HBW.out m5)
              go_wp2_with fail
              refine (works_any P _).mono ?_
              rintro e w6 ⟨rfl, hb⟩
              have HB6 := Lib.hid (HB5.out.trans (hb.mono HB5.out.size))
              clear hb
              go_wp2
              go_ret
              exact ⟨rfl, HB6.out⟩
end Go.Proofs.Ytdmjhaifilfniaa.Rg
