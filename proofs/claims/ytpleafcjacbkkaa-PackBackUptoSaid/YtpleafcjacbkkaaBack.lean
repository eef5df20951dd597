/- The walk of the law PackBack: it returns true, for every list of things whose bytes are at most 2^46; nothing that was there has changed. -/
import Derived.Test.YtpleafcjacbkkaaThings
namespace Go.Proofs.Ytpleafcjacbkkaa.Nu
open Go.ChangeShapes Go.WideShapes Go.ChangeAt Go.RowKit
set_option linter.unusedVariables false

/-- what holds at each round's head, where things are written. -/
def PutRel (w : World) (g : Nat) (l : List Thing) (len : Nat) (o i : Value) (wr : World) : Prop :=
  ∃ (k : Nat) (A : Option Addr) (n c : Nat), k ≤ len ∧ i = .int .i64 (k : Int) ∧ o = .slice A n c ∧ Head w g (all (l.take k)) A n c wr
theorem put_rel {w W : World} {g k n c len : Nat} {l : List Thing} {t : Thing} {A : Option Addr} (hk : k < len) (ht : l[k]? = some t) (h : Head w g (all (l.take k) ++ tb t) A n c W) : PutRel w g l len (.slice A n c) (.int .i64 ((k : Int) + 1)) W :=
  ⟨k + 1, A, n, c, hk, rfl, rfl, by rw [all_take ht]; exact h⟩
theorem tb0 (v : Nat) (s : ByteArray) : tb (0, v, s) = enc v := rfl
theorem tb1 (v : Nat) (s : ByteArray) : tb (1, v, s) = [v % 256] := rfl
theorem tb2 (v : Nat) (s : ByteArray) : tb (2, v, s) = [if v % 2 = 1 then 1 else 0] := rfl
theorem tb3 {kd : Nat} (v : Nat) (s : ByteArray) (h0 : ¬ kd = 0) (h1 : ¬ kd = 1) (h2 : ¬ kd = 2) : tb (kd, v, s) = enc s.size ++ sb s := by
  unfold tb
  rw [if_neg h0, if_neg h1, if_neg h2]
theorem cel_wrap {V : World} {x : Nat} {y : Int} (h : y = (x : Int)) : ∀ (j : Nat) (u : Value), (vals [x])[j]? = some u → (V.alloc (.cells #[.int .u8 y] 5)).cell? ((⟨V.heap.size, 0, none⟩ : Addr).add j) = some u := by
  rw [h]; exact cell_one V _ 5
/-! The orders in which the list and the byte behind it may be made. -/
theorem low_a (W : World) (o : Obj) : Below W.heap.size W (W.alloc o).drew := (below_new W o).drew
theorem low_b (W : World) (o p : Obj) : Below W.heap.size W ((W.alloc o).alloc p).drew := ((below_new W o).alloc (by simp) p).drew
theorem low_grown {W V V1 : World} {h : Nat} (hb : Below W.heap.size W V) (hg : V.grownBy V1 (some h)) (hh : W.heap.size ≤ h) : Below W.heap.size W V1 := hb.grown hg hb.size (fun k e => by cases e; exact hh)
theorem own_from {B g n c : Nat} (h : B ≤ g) : ∀ k, (Value.slice (some ⟨g, 0, none⟩) n c).ownBlock = some k → B ≤ k := fun k hk => by simp [Value.ownBlock] at hk; omega
theorem out_a (W : World) : (W.alloc (.cells #[] 5)).drew.ownsRow W.heap.size 5 1 (.slice (some ⟨W.heap.size, 0, none⟩) 0 0) 0 [] := (out_new W).drew
theorem out_b (W : World) (o : Obj) : ((W.alloc (.cells #[] 5)).alloc o).drew.ownsRow W.heap.size 5 1 (.slice (some ⟨W.heap.size, 0, none⟩) 0 0) 0 [] := ((out_new W).alloc o).drew
theorem out_c (W : World) (o : Obj) : ((W.alloc o).alloc (.cells #[] 5)).drew.ownsRow W.heap.size 5 1 (.slice (some ⟨W.heap.size + 1, 0, none⟩) 0 0) 0 [] := by
  have h := (World.ownsRow_lit (base := W.heap.size) (e := 5) (size := 1) (W.alloc o) #[] 0 (by simp) (by simp [maxLen]) rfl).drew
  simpa using h
theorem cel_b {W V : World} {x : Nat} {y : Int} {o : Obj} (h : y = (x : Int)) (hg : ((W.alloc o).alloc (.cells #[.int .u8 y] 5)).drew.grownBy V (some W.heap.size)) : ∀ (j : Nat) (u : Value), (vals [x])[j]? = some u → V.cell? ((⟨W.heap.size + 1, 0, none⟩ : Addr).add j) = some u := by
  intro j u hu
  have h1 := cel_wrap (V := W.alloc o) h j u hu
  simp at h1
  rw [hg.cell_far _ (by rw [block_add]; simp) (by rw [block_add]; simp)]
  exact h1
theorem cel_c {W V : World} {x : Nat} {y : Int} {o : Obj} (h : y = (x : Int)) (hg : ((W.alloc (.cells #[.int .u8 y] 5)).alloc o).drew.grownBy V (some (W.heap.size + 1))) : ∀ (j : Nat) (u : Value), (vals [x])[j]? = some u → V.cell? ((⟨W.heap.size, 0, none⟩ : Addr).add j) = some u := by
  intro j u hu
  have h1 := cel_wrap (V := W) h j u hu
  rw [hg.cell_far _ (by rw [block_add]; simp; omega) (by rw [block_add]; simp)]
  exact (World.cell?_alloc_lt _ _ _ (by rw [block_add]; simp)).trans h1
theorem half_known {w W V : World} {g n c q x g3 n3 c3 : Nat} {A : Option Addr} {m m1 : List Nat} {cs : Array Value} (h : Half w g m1 m A n c q cs W) (ho : V.ownsRow W.heap.size 5 1 (.slice (some ⟨g3, 0, none⟩) n3 c3) n3 (vals m ++ vals [x])) (hb : Below W.heap.size W V) (hx : x < 256) (hm : Small m) :
    Half w g m1 (m ++ [x]) (some ⟨g3, 0, none⟩) n3 c3 q cs V := by
  have ho' := ho
  rw [← vals_append] at ho'
  have hl : (m ++ [x]).length = n3 := by have := ho'.1; rw [vals_length] at this; omega
  obtain ⟨A1, n1, c1, e, h2⟩ := half_app h (small_append hm (fun y hy => by simp at hy; omega)) (app_done ho hl hb)
  cases e
  exact h2
theorem equal_same (w : World) (B1 B2 : Nat) (A1 A2 : Option Addr) (m : List Nat) (n1 n2 c1 c2 : Nat) (e1 : m.length = n1) (e2 : m.length = n2) (h1 : Bytes w B1 A1 m) (h2 : Bytes w B2 A2 m) :
    Calls Try.prog 32 #[.slice A1 n1 c1, .slice A2 n2 c2] w fun e w' => e = .returned (.bool true) ∧ w = w' :=
  (equal_any w B1 B2 A1 A2 m m n1 n2 c1 c2 e1 e2 h1 h2).mono fun _ _ ⟨he, hw⟩ => ⟨by rw [he, decide_eq_true rfl], hw⟩

/-- while things are read: the reader in block h has these bytes; the thing's own block is q. -/
def Got (w : World) (h : Nat) (m : List Nat) (q : Nat) (cs : Array Value) (W : World) : Prop :=
  w.heap.size ≤ h ∧ q ≠ h ∧ At W q 46 cs ∧ Below w.heap.size w W ∧ PR W h h m 0
def GetRel (w : World) (h : Nat) (l : List Thing) (len : Nat) (i : Value) (wr : World) : Prop :=
  ∃ k : Nat, k ≤ len ∧ i = .int .i64 (k : Int) ∧ w.heap.size ≤ h ∧ Below w.heap.size w wr ∧ PR wr h h (all (l.drop k)) 0
theorem got_rel {w W : World} {h k q len : Nat} {l : List Thing} {cs : Array Value} (hk : k < len) (g : Got w h (all (l.drop (k + 1))) q cs W) : GetRel w h l len (.int .i64 ((k : Int) + 1)) W := by
  obtain ⟨h1, h2, h3, h4, h5⟩ := g
  exact ⟨k + 1, hk, rfl, h1, h4, h5⟩
theorem get_got {w W : World} {h : Nat} {m : List Nat} (h1 : w.heap.size ≤ h) (h2 : Below w.heap.size w W) (h3 : PR W h h m 0) (cs : Array Value) : Got w h m W.heap.size cs (W.alloc (.cells cs 46)) :=
  ⟨h1, Nat.ne_of_gt h3.lt, At.new _ _ _, h2.alloc h2.size _, h3.kept (World.grownBy_alloc W _ none) (Nat.le_of_lt h3.lt) (by simp) (fun k e => (by cases e))⟩
/-- a reader's call. -/
def GMid (w : World) (h : Nat) (m : List Nat) (q : Nat) (cs : Array Value) (v : Value) (r : Ending) (W : World) : Prop := r = .returned v ∧ Got w h m q cs W
theorem got_call {w W : World} {f : FuncId} {args : Array Value} {h q : Nat} {m m1 : List Nat} {cs : Array Value} {v v1 : Value} {e1 : Nat} (g : Got w h m q cs W) (hc : PR W.drew h h m 0 → Calls Try.prog f args W.drew (PPost W.drew h h v m1 e1)) (he : e1 = 0) (hv : v = v1) {m2 : List Nat} (hm : m1 = m2) :
    Calls Try.prog f args W.drew (GMid w h m2 q cs v1) := by
  subst he hv hm
  obtain ⟨h1, h2, h3, h4, h5⟩ := g
  refine (hc (h5.drewN 1)).mono ?_
  rintro r W2 ⟨rfl, hp, hg⟩
  have hb : Below w.heap.size w W.drew := h4.drew
  have ha : At W.drew q 46 cs := h3
  exact ⟨rfl, h1, h2, ha.kept hg (by simpa using h2), hb.grown hg hb.size (fun k e => by cases e; exact h1), hp⟩
theorem got_num {w W : World} {h q v : Nat} {r : List Nat} {cs : Array Value} (g : Got w h (enc v ++ r) q cs W) (hv : v < 18446744073709551616) : Calls Try.prog 7 #[.pointer (some ⟨h, 0, none⟩)] W.drew (GMid w h r q cs (.int .u64 (v : Int))) := by
  obtain ⟨e1, e2, e3⟩ := num_back hv r
  exact got_call g (fun hp => num_any _ h h _ 0 hp (Nat.le_refl _)) (by rw [e3]; rfl) (by rw [e1]) e2
theorem got_byte {w W : World} {h q v : Nat} {r : List Nat} {cs : Array Value} (g : Got w h ([v % 256] ++ r) q cs W) : Calls Try.prog 11 #[.pointer (some ⟨h, 0, none⟩)] W.drew (GMid w h r q cs (.int .u8 (IntKind.u8.wrap (v : Int)))) :=
  got_call g (fun hp => byte_m _ h h _ 0 hp (Nat.le_refl _)) rfl (by rw [IntKind.wrap_u8]; show Value.int .u8 ((v % 256 : Nat) : Int) = _; rw [show ((v % 256 : Nat) : Int) = (v : Int) % 256 by omega]) rfl
theorem got_flag {w W : World} {h q b : Nat} {r : List Nat} {cs : Array Value} (g : Got w h ([b] ++ r) q cs W) (hb : b ≤ 1) : Calls Try.prog 13 #[.pointer (some ⟨h, 0, none⟩)] W.drew (GMid w h r q cs (.bool (decide (b = 1)))) :=
  got_call g (fun hp => flag_any _ h h _ 0 hp (Nat.le_refl _)) (by show flagE (b :: r) 0 = 0; unfold flagE; rw [if_pos (by exact hb)]; rfl) rfl (by show flagL (b :: r) = r; unfold flagL; rw [if_pos (by exact hb)]; rfl)
theorem got_text {w W : World} {h q : Nat} {s : ByteArray} {r : List Nat} {cs : Array Value} (g : Got w h ((enc s.size ++ sb s) ++ r) q cs W) (hs : s.size < 9223372036854775808) : Calls Try.prog 15 #[.pointer (some ⟨h, 0, none⟩), .int .i64 (s.size : Int)] W.drew (GMid w h r q cs (.string s)) := by
  obtain ⟨e1, e2, e3⟩ := text_back s hs r
  exact got_call g (fun hp => text_any _ h h _ 0 _ hp (Nat.le_refl _) (by omega) (by omega)) e3 (by rw [e1, str_sb]) e2
theorem Got.cell {w W : World} {h q : Nat} {m : List Nat} {cs : Array Value} (g : Got w h m q cs W) (i : Nat) : W.cell? ⟨q, i, none⟩ = cs[i]? := g.2.2.1.cell i

set_option maxRecDepth 100000 in
set_option maxHeartbeats 4000000 in
theorem back_walk (w : World) (A0 : Option Addr) (l : List Thing) (len cap : Nat) (hl : l.length = len) (ha : Things w w.heap.size A0 l) (hlm : len ≤ 9223372036854775807) (hm : most l ≤ 70368744177000) :
    Calls Try.prog 4 #[.slice A0 len cap] w fun r w' => r = .returned (.bool true) ∧ Below w.heap.size w w' := by
  obtain ⟨i0, hi0, hz0, hz1, hz2⟩ := info_parts byte_info
  have HL := Lib.hid hl
  have HA := Lib.hid ha
  have HM := Lib.hid hm
  have HS : Hid (PutRel w w.heap.size l len (.slice none 0 0) (.int .i64 0) (w.alloc (.cells #[.slice none 0 0] 44))) :=
    ⟨0, none, 0, 0, Nat.zero_le _, rfl, rfl, Nat.le_refl _, below_new w _, none, PW.new w, rfl, fun _ => ⟨rfl, rfl⟩, Bytes.none_ _ _ _, fun ad e => (by cases e)⟩
  clear hl ha hm
  go_enter Try.func4, Try.ntmps4
  go_wp2_with fail
  generalize w.heap.size = g at HS
  go_loopw [4, 5] (fun o i wr => PutRel w g l len o i wr) (fun _ i _ => len - (intOf i).toNat)
  case atStart => exact HS.out
  case round =>
    clear HS
    obtain ⟨k, A, n, c, hk, rfl, rfl, hp⟩ := hrel
    have HP := Lib.hid hp
    clear hp
    by_cases hlt : k < len
    · obtain ⟨ad, kd, v, s, rfl, hkt, hkd, hv, hc0, hc1, hc2⟩ := (HA.out.below HP.out.2.1).at_ (k := k) (by rw [HL.out]; exact hlt)
      have HK := Lib.hid hkt
      have hmost : (all (l.take k)).length + (s.size + 9) ≤ 70368744177000 := Nat.le_trans (most_at hkt) HM.out
      have i1 : (k : Int) < (len : Int) := by omega
      have HH := Lib.hid (head_half HP.out #[.int .u8 (kd : Int), .int .u64 (v : Int), .string s])
      have hnl : n + (s.size + 9) ≤ 70368744177000 := by have := HH.out.want.1; omega
      clear hkt
      by_cases k0 : kd = 0
      · subst k0
        have HH1 : Hid (Half w g (all (l.take k)) (all (l.take k)) A n c wr.heap.size #[.int .u8 0, .int .u64 (v : Int), .string s] (wr.alloc (.cells #[.int .u8 0, .int .u64 (v : Int), .string s] 46))) := HH.out
        go_wp2_with fail
        refine (half_put (m1 := all (l.take k) ++ enc v) HH1.out (fun rb hp => wnum_any _ g g rb _ v hp hv (by omega))).mono ?_
        rintro r W1 ⟨rfl, h1⟩
        have H1 := Lib.hid h1
        have q1 : W1.cell? ⟨wr.heap.size, 1, none⟩ = some (.int .u64 (v : Int)) := h1.cell 1
        clear h1
        go_wp2_with fail
        refine (rappend_any W1 A (all (l.take k)) n c v H1.out.want.1 H1.out.want.2.1 H1.out.want.2.2 (by omega) hv).mono ?_
        intro r W2 ha
        obtain ⟨A2, n2, c2, rfl, h2⟩ := half_app H1.out (small_append (all_small _) (enc_small v)) ha
        have HR : Hid (PutRel w g l len (.slice A2 n2 c2) (.int .i64 ((k : Int) + 1)) W2) := put_rel hlt HK.out (by rw [tb0]; exact half_head h2)
        clear ha h2
        go_wp2
        go_roundw
        case rel => exact HR.out
        case measure => simp [intOf]; omega
      by_cases k1 : kd = 1
      · subst k1
        have HH1 : Hid (Half w g (all (l.take k)) (all (l.take k)) A n c wr.heap.size #[.int .u8 1, .int .u64 (v : Int), .string s] (wr.alloc (.cells #[.int .u8 1, .int .u64 (v : Int), .string s] 46))) := HH.out
        go_wp2_with fail
        rw [show (v : Int) % 256 = ((v % 256 : Nat) : Int) by omega]
        refine (half_put (m1 := all (l.take k) ++ [v % 256]) HH1.out (fun rb hp => wbyte_any _ g g rb _ (v % 256) hp (by omega) (by omega))).mono ?_
        rintro r W1 ⟨rfl, h1⟩
        have H1 := Lib.hid h1
        have q1 : W1.cell? ⟨wr.heap.size, 1, none⟩ = some (.int .u64 (v : Int)) := h1.cell 1
        have hqW : wr.heap.size < W1.heap.size := h1.2.2.1.lt
        clear h1
        go_wp2_with fail
        have HWR : Hid (IntKind.u8.wrap (v : Int) = ((v % 256 : Nat) : Int)) := Lib.hid (by rw [IntKind.wrap_u8]; omega)
        go_region_law (first
          | (refine step_out rfl (.tmp 45) (.tmp 46) rfl rfl _ W1.heap.size _ A (all (l.take k)) n c rfl rfl (by first | exact out_a W1 | exact out_b W1 _ | exact out_c W1 _) H1.out.want.2.1 (by first | exact H1.out.want.2.2.up (low_a W1 _) | exact H1.out.want.2.2.up (low_b W1 _ _)) H1.out.want.1 (by omega) (by first | (simp; done) | (simp; omega)) ?_
             intro g2 cap2 V1 ho2 hg2 hB2
             have HB2 : Hid (Below W1.heap.size W1 V1) := (by first | exact low_grown (low_a W1 _) hg2 (Nat.le_refl _) | exact low_grown (low_b W1 _ _) hg2 (Nat.le_refl _) | exact low_grown (low_b W1 _ _) hg2 (Nat.le_succ _))
             have q2 : V1.cell? ⟨wr.heap.size, 1, none⟩ = some (.int .u64 (v : Int)) := (HB2.out.cell (p := ⟨wr.heap.size, 1, none⟩) hqW).trans q1
             have HO2 := Lib.hid ho2
             first
               | (have HC2 := Lib.hid (cel_b HWR.out hg2))
               | (have HC2 := Lib.hid (cel_c HWR.out hg2))
               | skip
             clear ho2 hg2)
          | (refine step_append_lies _ rfl (.tmp 47) (.tmp 51) 22 rfl W1.heap.size 5 i0 (.int .u8 0) 1 1 Try.underlying22 hi0 hz0 hz1 hz2 rfl (by decide) (.slice (some ⟨g2, 0, none⟩) n cap2) n (vals (all (l.take k))) rfl (by first | exact HO2.out.alloc _ | exact HO2.out) ⟨_, 0, none⟩ 1 1 (vals [v % 256]) rfl rfl (by first | exact cel_wrap HWR.out | exact HC2.out) (vals_one _) (by decide) (by simp only [maxLen]; omega) (by omega) (by first | exact HB2.out.size | exact Nat.le_trans HB2.out.size (by simp)) _ rfl ?_
             intro g3 cap3 V2 ho3 hg3 hat3 hlt3
             have HB3 : Hid (Below W1.heap.size W1 V2) := (by first | exact HB2.out.grown hg3 HB2.out.size (own_from hB2) | exact (HB2.out.alloc HB2.out.size _).grown hg3 (Nat.le_trans HB2.out.size (by simp)) (own_from hB2))
             have HO3 := Lib.hid ho3
             clear ho3 hg3 hat3 hlt3))
        all_goals
          have HR : Hid (PutRel w g l len (.slice (some ⟨g3, 0, none⟩) (n + 1) cap3) (.int .i64 ((k : Int) + 1)) V2) := put_rel hlt HK.out (by rw [tb1]; exact half_head (half_known H1.out HO3.out HB3.out (Nat.mod_lt _ (by decide)) (all_small _)))
          clear q1 q2 HO2 HB2 HO3 HB3 H1
          go_wp2
          go_roundw
          case rel => exact HR.out
          case measure => simp [intOf]; omega
      by_cases k2 : kd = 2
      · subst k2
        by_cases hv2 : v % 2 = 1
        · have b2 : ((v : Int) % 2 == 1) = true := by rw [beq_iff_eq]; omega
          have tbe : Hid (tb (2, v, s) = [1]) := Lib.hid (by rw [tb2, if_pos hv2])
          clear hv2
          have HH1 : Hid (Half w g (all (l.take k)) (all (l.take k)) A n c wr.heap.size #[.int .u8 2, .int .u64 (v : Int), .string s] (wr.alloc (.cells #[.int .u8 2, .int .u64 (v : Int), .string s] 46))) := HH.out
          go_wp2_with fail
          refine (half_put (m1 := all (l.take k) ++ [1]) HH1.out (fun rb hp => wflag_any _ g g rb _ true hp (by omega))).mono ?_
          rintro r W1 ⟨rfl, h1⟩
          have H1 := Lib.hid h1
          have q1 : W1.cell? ⟨wr.heap.size, 1, none⟩ = some (.int .u64 (v : Int)) := h1.cell 1
          clear h1
          go_wp2_with fail
          refine (pflag_any W1 A (all (l.take k)) n c true H1.out.want.1 H1.out.want.2.1 H1.out.want.2.2 (by omega)).mono ?_
          intro r W2 ha
          obtain ⟨A2, n2, c2, rfl, h2⟩ := half_app H1.out (small_append (all_small _) (show Small [1] by intro x hx; simp at hx; omega)) ha
          have HR : Hid (PutRel w g l len (.slice A2 n2 c2) (.int .i64 ((k : Int) + 1)) W2) := put_rel hlt HK.out (by rw [tbe.out]; exact half_head h2)
          clear ha h2
          go_wp2
          go_roundw
          case rel => exact HR.out
          case measure => simp [intOf]; omega
        · have b2 : ((v : Int) % 2 == 1) = false := by rw [beq_eq_false_iff_ne]; omega
          have tbe : Hid (tb (2, v, s) = [0]) := Lib.hid (by rw [tb2, if_neg hv2])
          clear hv2
          have HH1 : Hid (Half w g (all (l.take k)) (all (l.take k)) A n c wr.heap.size #[.int .u8 2, .int .u64 (v : Int), .string s] (wr.alloc (.cells #[.int .u8 2, .int .u64 (v : Int), .string s] 46))) := HH.out
          go_wp2_with fail
          refine (half_put (m1 := all (l.take k) ++ [0]) HH1.out (fun rb hp => wflag_any _ g g rb _ false hp (by omega))).mono ?_
          rintro r W1 ⟨rfl, h1⟩
          have H1 := Lib.hid h1
          have q1 : W1.cell? ⟨wr.heap.size, 1, none⟩ = some (.int .u64 (v : Int)) := h1.cell 1
          clear h1
          go_wp2_with fail
          refine (pflag_any W1 A (all (l.take k)) n c false H1.out.want.1 H1.out.want.2.1 H1.out.want.2.2 (by omega)).mono ?_
          intro r W2 ha
          obtain ⟨A2, n2, c2, rfl, h2⟩ := half_app H1.out (small_append (all_small _) (show Small [0] by intro x hx; simp at hx; omega)) ha
          have HR : Hid (PutRel w g l len (.slice A2 n2 c2) (.int .i64 ((k : Int) + 1)) W2) := put_rel hlt HK.out (by rw [tbe.out]; exact half_head h2)
          clear ha h2
          go_wp2
          go_roundw
          case rel => exact HR.out
          case measure => simp [intOf]; omega
      · have t0 : ((kd : Int) == 0) = false := by rw [beq_eq_false_iff_ne]; omega
        have t1 : ((kd : Int) == 1) = false := by rw [beq_eq_false_iff_ne]; omega
        have t2 : ((kd : Int) == 2) = false := by rw [beq_eq_false_iff_ne]; omega
        have tbe := Lib.hid (tb3 v s k0 k1 k2)
        clear k0 k1 k2
        have HH1 : Hid (Half w g (all (l.take k)) (all (l.take k)) A n c wr.heap.size #[.int .u8 (kd : Int), .int .u64 (v : Int), .string s] (wr.alloc (.cells #[.int .u8 (kd : Int), .int .u64 (v : Int), .string s] 46))) := HH.out
        go_wp2_with fail
        refine (half_put (m1 := all (l.take k) ++ (enc s.size ++ sb s)) HH1.out (fun rb hp => wtext_any _ g g rb _ s hp (by omega))).mono ?_
        rintro r W1 ⟨rfl, h1⟩
        have H1 := Lib.hid h1
        have q1 : W1.cell? ⟨wr.heap.size, 2, none⟩ = some (.string s) := h1.cell 2
        clear h1
        go_wp2_with fail
        refine (ptext_any W1 A (all (l.take k)) n c s H1.out.want.1 H1.out.want.2.1 H1.out.want.2.2 (by omega)).mono ?_
        intro r W2 ha
        obtain ⟨A2, n2, c2, rfl, h2⟩ := half_app H1.out (small_append (all_small _) (small_append (enc_small _) (sb_small s))) ha
        have HR : Hid (PutRel w g l len (.slice A2 n2 c2) (.int .i64 ((k : Int) + 1)) W2) := put_rel hlt HK.out (by rw [tbe.out]; exact half_head h2)
        clear ha h2
        go_wp2
        go_roundw
        case rel => exact HR.out
        case measure => simp [intOf]; omega
    · obtain rfl : k = len := by omega
      have htl : l.take k = l := by rw [← HL.out]; exact List.take_length
      have hp := HP.out
      rw [htl] at hp
      obtain ⟨hgw, hb, rb, hp, hw1, hw2, hw3, hw4⟩ := hp
      have hnl : n ≤ 70368744177000 := by have := all_len l; have := HM.out; omega
      have HB := Lib.hid hb
      have HW := Lib.hid hp
      have W1 := Lib.hid hw1
      have W2 := Lib.hid hw2
      have W3 := Lib.hid hw3
      clear htl hp hb hw1 hw2 hw3 hw4
      go_wp2_with fail
      refine (wbytes_any wr g g rb (all l) HW.out (by have := W1.out; omega)).mono ?_
      rintro r V1 ⟨A2, n2, c2, rfl, hn2, hb2, _, _, _, hbel, _⟩
      have HN2 := Lib.hid hn2
      have HY2 := Lib.hid hb2
      have HY1 := Lib.hid (W3.out.up hbel)
      have HB2 := Lib.hid (HB.out.trans (hbel.mono HB.out.size))
      clear hn2 hb2 hbel
      go_wp2_with fail
      refine (equal_same V1 _ _ A2 A (all l) n2 n c2 c HN2.out W1.out HY2.out HY1.out).mono ?_
      rintro r w' ⟨rfl, rfl⟩
      go_wp2_with fail
      refine (new_any V1 A (all l) n c W1.out W2.out HY1.out (by omega)).mono ?_
      rintro r V2 ⟨h, rfl, hhw, hp2, hb2⟩
      have HS : Hid (GetRel w h l k (.int .i64 0) V2) := ⟨0, Nat.zero_le _, rfl, Nat.le_trans HB2.out.size hhw, HB2.out.trans (hb2.mono HB2.out.size), hp2⟩
      clear hp2 hb2 HY1 HY2 HN2 HB2 W1 W2 W3 HW HB HP
      go_wp2_with fail
      go_loopw [8] (fun i V => GetRel w h l k i V) (fun i _ => k - (intOf i).toNat)
      case atStart => exact HS.out
      case round =>
        clear HS
        obtain ⟨j, hj, rfl, hh1, hh2, hh3⟩ := hrel
        have HH2 := Lib.hid hh2
        have HH3 := Lib.hid hh3
        clear hh2 hh3
        by_cases hjl : j < k
        · obtain ⟨ad, kd, v, s, hA0, hkt, hkd, hv, hc0, hc1, hc2⟩ := (HA.out.below HH2.out).at_ (k := j) (by rw [HL.out]; exact hjl)
          subst hA0
          have HK := Lib.hid hkt
          have hmost : (all (l.take j)).length + (s.size + 9) ≤ 70368744177000 := Nat.le_trans (most_at hkt) HM.out
          have i1 : (j : Int) < (k : Int) := by omega
          have HH1 := Lib.hid hh1
          clear hkt hh1
          by_cases k0 : kd = 0
          · subst k0
            have HG : Hid (Got w h (enc v ++ all (l.drop (j + 1))) wr.heap.size #[.int .u8 0, .int .u64 (v : Int), .string s] (wr.alloc (.cells #[.int .u8 0, .int .u64 (v : Int), .string s] 46))) := get_got HH1.out HH2.out (by rw [← tb0 v s, ← all_drop HK.out]; exact HH3.out) _
            have hcm : (wr.alloc (.cells #[.int .u8 0, .int .u64 (v : Int), .string s] 46)).cell? ⟨wr.heap.size, 1, none⟩ = some (.int .u64 (v : Int)) := HG.out.cell 1
            have HCM := Lib.hid hcm
            go_wp2_with fail
            go_region_held3 (fun V => V.cell? ⟨wr.heap.size, 1, none⟩ = some (.int .u64 (v : Int))) (first | go_keep | assumption) ((go_at_call 7; (with_reducible refine (got_num HG.out hv).mono ?_); rintro r V3 ⟨rfl, hg3⟩; have HG3 := Lib.hid hg3; have hc3 : V3.cell? ⟨wr.heap.size, 1, none⟩ = some (.int .u64 (v : Int)) := hg3.cell 1; clear hg3))
            clear hcm
            go_wp2
            go_roundw
            case rel => exact got_rel hjl HG3.out
            case measure => simp [intOf]; omega
          by_cases k1 : kd = 1
          · subst k1
            have HG : Hid (Got w h ([v % 256] ++ all (l.drop (j + 1))) wr.heap.size #[.int .u8 1, .int .u64 (v : Int), .string s] (wr.alloc (.cells #[.int .u8 1, .int .u64 (v : Int), .string s] 46))) := get_got HH1.out HH2.out (by rw [← tb1 v s, ← all_drop HK.out]; exact HH3.out) _
            have hcm : (wr.alloc (.cells #[.int .u8 1, .int .u64 (v : Int), .string s] 46)).cell? ⟨wr.heap.size, 1, none⟩ = some (.int .u64 (v : Int)) := HG.out.cell 1
            have HCM := Lib.hid hcm
            go_wp2_with fail
            go_region_held3 (fun V => V.cell? ⟨wr.heap.size, 1, none⟩ = some (.int .u64 (v : Int))) (first | go_keep | assumption) ((go_at_call 11; (with_reducible refine (got_byte HG.out).mono ?_); rintro r V3 ⟨rfl, hg3⟩; have HG3 := Lib.hid hg3; have hc3 : V3.cell? ⟨wr.heap.size, 1, none⟩ = some (.int .u64 (v : Int)) := hg3.cell 1; clear hg3))
            clear hcm
            go_wp2
            go_roundw
            case rel => exact got_rel hjl HG3.out
            case measure => simp [intOf]; omega
          by_cases k2 : kd = 2
          · subst k2
            by_cases hv2 : v % 2 = 1
            · have b2 : ((v : Int) % 2 == 1) = true := by rw [beq_iff_eq]; omega
              have b3 : ((v : Int).tmod 2 == 1) = true := by rw [Int.tmod_eq_emod_of_nonneg (by omega)]; exact b2
              have tbe : Hid (tb (2, v, s) = [1]) := Lib.hid (by rw [tb2, if_pos hv2])
              clear hv2
              have HG : Hid (Got w h ([1] ++ all (l.drop (j + 1))) wr.heap.size #[.int .u8 2, .int .u64 (v : Int), .string s] (wr.alloc (.cells #[.int .u8 2, .int .u64 (v : Int), .string s] 46))) := get_got HH1.out HH2.out (by rw [← tbe.out, ← all_drop HK.out]; exact HH3.out) _
              have hcm : (wr.alloc (.cells #[.int .u8 2, .int .u64 (v : Int), .string s] 46)).cell? ⟨wr.heap.size, 1, none⟩ = some (.int .u64 (v : Int)) := HG.out.cell 1
              have HCM := Lib.hid hcm
              go_wp2_with fail
              go_region_held3 (fun V => V.cell? ⟨wr.heap.size, 1, none⟩ = some (.int .u64 (v : Int))) (first | go_keep | assumption) ((go_at_call 13; (with_reducible refine (got_flag HG.out (by decide)).mono ?_); rintro r V3 ⟨rfl, hg3⟩; have HG3 := Lib.hid hg3; have hc3 : V3.cell? ⟨wr.heap.size, 1, none⟩ = some (.int .u64 (v : Int)) := hg3.cell 1; clear hg3))
              clear hcm
              go_wp2
              go_roundw
              case rel => exact got_rel hjl HG3.out
              case measure => simp [intOf]; omega
            · have b2 : ((v : Int) % 2 == 1) = false := by rw [beq_eq_false_iff_ne]; omega
              have b3 : ((v : Int).tmod 2 == 1) = false := by rw [Int.tmod_eq_emod_of_nonneg (by omega)]; exact b2
              have tbe : Hid (tb (2, v, s) = [0]) := Lib.hid (by rw [tb2, if_neg hv2])
              clear hv2
              have HG : Hid (Got w h ([0] ++ all (l.drop (j + 1))) wr.heap.size #[.int .u8 2, .int .u64 (v : Int), .string s] (wr.alloc (.cells #[.int .u8 2, .int .u64 (v : Int), .string s] 46))) := get_got HH1.out HH2.out (by rw [← tbe.out, ← all_drop HK.out]; exact HH3.out) _
              have hcm : (wr.alloc (.cells #[.int .u8 2, .int .u64 (v : Int), .string s] 46)).cell? ⟨wr.heap.size, 1, none⟩ = some (.int .u64 (v : Int)) := HG.out.cell 1
              have HCM := Lib.hid hcm
              go_wp2_with fail
              go_region_held3 (fun V => V.cell? ⟨wr.heap.size, 1, none⟩ = some (.int .u64 (v : Int))) (first | go_keep | assumption) ((go_at_call 13; (with_reducible refine (got_flag HG.out (by decide)).mono ?_); rintro r V3 ⟨rfl, hg3⟩; have HG3 := Lib.hid hg3; have hc3 : V3.cell? ⟨wr.heap.size, 1, none⟩ = some (.int .u64 (v : Int)) := hg3.cell 1; clear hg3))
              clear hcm
              go_wp2
              go_roundw
              case rel => exact got_rel hjl HG3.out
              case measure => simp [intOf]; omega
          · have t0 : ((kd : Int) == 0) = false := by rw [beq_eq_false_iff_ne]; omega
            have t1 : ((kd : Int) == 1) = false := by rw [beq_eq_false_iff_ne]; omega
            have t2 : ((kd : Int) == 2) = false := by rw [beq_eq_false_iff_ne]; omega
            have tbe := Lib.hid (tb3 v s k0 k1 k2)
            clear k0 k1 k2
            have HG : Hid (Got w h ((enc s.size ++ sb s) ++ all (l.drop (j + 1))) wr.heap.size #[.int .u8 (kd : Int), .int .u64 (v : Int), .string s] (wr.alloc (.cells #[.int .u8 (kd : Int), .int .u64 (v : Int), .string s] 46))) := get_got HH1.out HH2.out (by rw [← tbe.out, ← all_drop HK.out]; exact HH3.out) _
            have hcm : (wr.alloc (.cells #[.int .u8 (kd : Int), .int .u64 (v : Int), .string s] 46)).cell? ⟨wr.heap.size, 2, none⟩ = some (.string s) := HG.out.cell 2
            have HCM := Lib.hid hcm
            go_wp2_with fail
            go_region_held3 (fun V => V.cell? ⟨wr.heap.size, 2, none⟩ = some (.string s)) (first | go_keep | assumption) ((go_at_call 15; (with_reducible refine (got_text HG.out (by omega)).mono ?_); rintro r V3 ⟨rfl, hg3⟩; have HG3 := Lib.hid hg3; have hc3 : V3.cell? ⟨wr.heap.size, 2, none⟩ = some (.string s) := hg3.cell 2; clear hg3))
            clear hcm
            go_wp2
            go_roundw
            case rel => exact got_rel hjl HG3.out
            case measure => simp [intOf]; omega
        · obtain rfl : j = k := by omega
          have hdl : l.drop j = [] := by rw [List.drop_eq_nil_iff]; rw [HL.out]; exact Nat.le_refl _
          have hp := HH3.out
          rw [hdl] at hp
          have HP3 : Hid (PR wr h h [] 0) := hp
          clear hp hdl
          go_wp2_with fail
          refine (end_any wr h h [] 0 HP3.out (Nat.le_refl _)).mono ?_
          rintro r V3 ⟨rfl, hp3, hg3⟩
          have HP4 : Hid (PR V3 h h [] 0) := hp3
          have HB3 := Lib.hid (HH2.out.grown hg3 HH2.out.size (fun k e => by cases e; exact hh1))
          have ez : endE [] 0 = 0 := rfl
          rw [ez]
          clear hp3 hg3 ez
          go_wp2_with fail
          refine (left_any V3 h h [] 0 HP4.out).mono ?_
          rintro r w' ⟨rfl, rfl⟩
          go_wp2_with fail
          refine (works_any V3).mono ?_
          rintro r V4 ⟨rfl, hb4⟩
          go_wp2
          go_ret
          exact ⟨rfl, HB3.out.trans (hb4.mono HB3.out.size)⟩
end Go.Proofs.Ytpleafcjacbkkaa.Nu
