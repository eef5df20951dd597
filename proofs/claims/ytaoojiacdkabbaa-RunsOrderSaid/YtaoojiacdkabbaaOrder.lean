/- The walk of RunsOrder: whatever the numbers and the turn. No condition but that the slice is a slice. -/
import Derived.Test.YtaoojiacdkabbaaCalls
namespace Go.Proofs.Ytaoojiacdkabbaa.Ru
open Go.ChangeShapes Go.WideShapes Go.ChangeAt Go.RowKit Go.Shelf
set_option linter.unusedVariables false

/-- the numbers, from the last one on, turned. -/
def spun (nu : List Nat) (f : Nat) : List Nat := (List.range nu.length).map fun i => nu.getD ((nu.length - 1 - i + f) % nu.length) 0
theorem spun_length (nu : List Nat) (f : Nat) : (spun nu f).length = nu.length := by unfold spun; simp
theorem spun_get {nu : List Nat} {f k x : Nat} (hk : k < nu.length) (h : nu[(nu.length - 1 - k + f) % nu.length]? = some x) : (spun nu f)[k]? = some x := by
  unfold spun
  rw [List.getElem?_map, List.getElem?_range hk, Option.map_some, List.getD_eq_getElem?_getD, h, Option.getD_some]
theorem spun_mem (nu : List Nat) (f x : Nat) : x ∈ spun nu f ↔ x ∈ nu := by
  unfold spun
  rw [List.mem_map]
  constructor
  · rintro ⟨i, hi, rfl⟩
    have hi' : i < nu.length := List.mem_range.1 hi
    have hz : (nu.length - 1 - i + f) % nu.length < nu.length := Nat.mod_lt _ (by omega)
    rw [List.getD_eq_getElem?_getD, List.getElem?_eq_getElem hz, Option.getD_some]
    exact List.getElem_mem hz
  · intro hx
    obtain ⟨j, hj, rfl⟩ := List.getElem_of_mem hx
    have hN : 0 < nu.length := by omega
    obtain ⟨s, hs⟩ : ∃ s, nu.length - 1 + f = s := ⟨_, rfl⟩
    have hi : (s + (nu.length - j)) % nu.length < nu.length := Nat.mod_lt _ hN
    refine ⟨(s + (nu.length - j)) % nu.length, List.mem_range.2 hi, ?_⟩
    have hdm := Nat.div_add_mod (s + (nu.length - j)) nu.length
    have hQ : 1 ≤ (s + (nu.length - j)) / nu.length := (Nat.one_le_div_iff hN).2 (by omega)
    have e : (nu.length - 1 - (s + (nu.length - j)) % nu.length + f) % nu.length = j := by
      obtain ⟨Q, hQ2⟩ : ∃ Q, (s + (nu.length - j)) / nu.length = Q + 1 := ⟨(s + (nu.length - j)) / nu.length - 1, by omega⟩
      rw [hQ2, Nat.mul_add, Nat.mul_one] at hdm
      have h2 : nu.length - 1 - (s + (nu.length - j)) % nu.length + f = j + nu.length * Q := by omega
      rw [h2, Nat.add_mul_mod_self_left, Nat.mod_eq_of_lt hj]
    rw [e, List.getD_eq_getElem?_getD, List.getElem?_eq_getElem hj, Option.getD_some]
theorem spun_of (nu : List Nat) (f : Nat) : ofL (spun nu f) = ofL nu := by
  refine uniq (ofL_spec _).1 (ofL_spec _).1 fun m => ?_
  rw [(ofL_spec _).2, (ofL_spec _).2, Bool.eq_iff_iff, List.any_eq_true, List.any_eq_true]
  exact ⟨fun ⟨x, h1, h2⟩ => ⟨x, (spun_mem nu f x).1 h1, h2⟩, fun ⟨x, h1, h2⟩ => ⟨x, (spun_mem nu f x).2 h1, h2⟩⟩

structure ORel (w : World) (nu sp : List Nat) (k : Nat) (A1 A2 : Option Addr) (m1 m2 c1 c2 : Nat) (wr : World) : Prop where
  e1 : (ofL (nu.take k)).length = m1
  e2 : (ofL (sp.take k)).length = m2
  a1 : A1 = none → m1 = 0 ∧ c1 = 0
  a2 : A2 = none → m2 = 0 ∧ c2 = 0
  r1 : Runs wr wr.heap.size A1 (ofL (nu.take k))
  r2 : Runs wr wr.heap.size A2 (ofL (sp.take k))
  bel : Below w.heap.size w wr

set_option maxRecDepth 100000 in
set_option maxHeartbeats 8000000 in
theorem order_walk (w : World) (B : Option Addr) (nu : List Nat) (len d fr : Nat) (hq : nu.length = len) (hqb : Nums w w.heap.size B nu) (hq63 : len ≤ 9223372036854775807) (hfr : fr < 256) :
    Calls Try.prog 6 #[.slice B len d, .int .u8 (fr : Int)] w fun e w' => e = .returned (.bool true) ∧ Below w.heap.size w w' := by
  have HQ := Lib.hid hq
  have HQB := Lib.hid hqb
  have FW := Lib.hid (works_any w)
  clear hq hqb
  by_cases h2 : len ≤ 200
  · have HS : Hid (ORel w nu (spun nu fr) 0 none none 0 0 0 0 w) := ⟨rfl, rfl, fun _ => ⟨rfl, rfl⟩, fun _ => ⟨rfl, rfl⟩, Runs.none_ _ _ _, Runs.none_ _ _ _, Below.refl _ _⟩
    go_enter Try.func6, Try.ntmps6
    go_wp2
    go_loopw [5, 6, 7] (fun va vb i wr => ∃ (k : Nat) (A1 A2 : Option Addr) (m1 m2 c1 c2 : Nat), k ≤ len ∧ i = .int .i64 (k : Int) ∧ va = .slice A1 m1 c1 ∧ vb = .slice A2 m2 c2 ∧ ORel w nu (spun nu fr) k A1 A2 m1 m2 c1 c2 wr) (fun _ _ i _ => len - (intOf i).toNat)
    case atStart => exact ⟨0, none, none, 0, 0, 0, 0, Nat.zero_le _, rfl, rfl, rfl, HS.out⟩
    case round =>
      clear HS
      obtain ⟨k, A1, A2, m1, m2, c1, c2, hk, rfl, rfl, rfl, hR⟩ := hrel
      have HR := Lib.hid hR
      clear hR
      have hm1 : m1 ≤ k := by rw [← HR.out.e1]; exact Nat.le_trans (ofL_length _) (by rw [List.length_take]; omega)
      have hm2 : m2 ≤ k := by rw [← HR.out.e2]; exact Nat.le_trans (ofL_length _) (by rw [List.length_take]; omega)
      by_cases hlt : k < len
      · obtain ⟨ad, x, rfl, hlx, hx, q1⟩ := (HQB.out.below HR.out.bel).at_ (k := k) (by rw [HQ.out]; exact hlt)
        obtain ⟨z, hz⟩ : ∃ z, (len - 1 - k + fr) % len = z := ⟨_, rfl⟩
        have hzl : z < len := by rw [← hz]; exact Nat.mod_lt _ (by omega)
        obtain ⟨ad2, y, e2, hly, hy, q2⟩ := (HQB.out.below HR.out.bel).at_ (k := z) (by rw [HQ.out]; exact hzl)
        cases e2
        have TX := Lib.hid (ofL_take hlx)
        have TY : Hid (ofL ((spun nu fr).take (k + 1)) = setL (ofL ((spun nu fr).take k)) [(y, y)] 0) := ofL_take (spun_get (by rw [HQ.out]; exact hlt) (by rw [HQ.out, hz]; exact hly))
        have hrem : ((len : Int) - 1 - (k : Int) + (fr : Int)).tmod (len : Int) = (z : Int) := by
          rw [show (len : Int) - 1 - (k : Int) + (fr : Int) = ((len - 1 - k + fr : Nat) : Int) by omega, ← Int.ofNat_tmod, hz]
        have C1 := Lib.hid (padd_any wr A1 (ofL (nu.take k)) m1 c1 x HR.out.e1 HR.out.a1 HR.out.r1 (by omega) hx)
        have HQ2 : Hid (∀ V, Below wr.heap.size wr V → V.cell? (ad.add z) = some (.int .u64 (y : Int))) := fun V hV => (hV.cell (World.block_lt_of_cell? wr _ q2)).trans q2
        clear hlx hly q2 hz
        go_wp2_with fail
        refine C1.out.mono ?_
        rintro e w1 p1
        rw [← TX.out] at p1
        obtain ⟨B1, n1, d1, rfl, e1, a1, f1, g1, r1, o1, b1⟩ := post_runs p1 (fit_order (ofL_spec _).1)
        have S1 := Lib.hid r1
        have E1 := Lib.hid e1
        have N1 := Lib.hid a1
        have W1 : Hid (Below w.heap.size w w1) := HR.out.bel.trans (b1.mono HR.out.bel.size)
        have C2 := Lib.hid (padd_any w1 A2 (ofL ((spun nu fr).take k)) m2 c2 y HR.out.e2 HR.out.a2 (HR.out.r2.up b1) (by omega) hy)
        have q3 := HQ2.out w1 b1
        clear C1 p1 r1 e1 a1 o1 b1 q1
        go_wp2_with fail
        refine C2.out.mono ?_
        rintro e w2 p2
        rw [← TY.out] at p2
        obtain ⟨B2, n2, d2, rfl, e2, a2, f2, g2, r2, o2, b2⟩ := post_runs p2 (fit_order (ofL_spec _).1)
        have HR2 : Hid (ORel w nu (spun nu fr) (k + 1) B1 B2 n1 n2 d1 d2 w2) := ⟨E1.out, e2, N1.out, a2, S1.out.up b2, r2, W1.out.trans (b2.mono W1.out.size)⟩
        clear C2 p2 r2 e2 a2 o2 b2 q3
        go_wp2
        go_roundw
        case rel => exact ⟨k + 1, B1, B2, n1, n2, d1, d2, by omega, by go_num, rfl, rfl, HR2.out⟩
        case measure => simp [intOf]; omega
      · obtain rfl : k = len := by omega
        have t1 : nu.take k = nu := List.take_of_length_le (by rw [HQ.out]; exact Nat.le_refl _)
        have t2 : (spun nu fr).take k = spun nu fr := List.take_of_length_le (by rw [spun_length, HQ.out]; exact Nat.le_refl _)
        have HE1 := Lib.hid HR.out.e1
        have HE2 := Lib.hid HR.out.e2
        have HN1 := Lib.hid HR.out.a1
        have HN2 := Lib.hid HR.out.a2
        have R1 := Lib.hid HR.out.r1
        have R2 := Lib.hid HR.out.r2
        have HW9 := Lib.hid HR.out.bel
        have RN := Lib.hid (HQB.out.up HR.out.bel)
        rw [t1] at HE1 R1
        rw [t2, spun_of] at HE2 R2
        have HIO := Lib.hid (ofL_spec nu).1
        obtain ⟨L, hL⟩ : ∃ L, ofL nu = L := ⟨_, rfl⟩
        have HL := Lib.hid hL
        rw [hL] at HE1 HE2 R1 R2 HIO
        have HG : Hid (L = nrm L) := (good_comes L).1 HIO.out
        obtain ⟨f, hf⟩ : ∃ f, firstR L = f := ⟨_, rfl⟩
        obtain ⟨s1, s2, s3⟩ := first_spec HIO.out
        rw [hf] at s1 s2 s3
        have HF0 := Lib.hid s2
        have HF2 : f ≤ 281474976710656 := by
          by_cases h : f = 1
          · omega
          · have := has_bound (s3 (f - 1) (by omega) (by omega))
            omega
        have C8 := Lib.hid (conv (pfirst_any wr A1 L m1 c1 HE1.out R1.out (by omega)) (congrArg (fun z : Nat => Value.int .u64 (z : Int)) (show firstR (nrm L) = f by rw [← HG.out, hf])))
        have HF3 : Hid (f ≠ 1 → has L (f - 1) = true) := fun h => s3 (f - 1) (by omega) (by omega)
        clear t1 t2 hL HR HQB FW s2 s3 hf
        go_wp2_with fail
        refine C8.out.mono ?_
        rintro e w8 ⟨rfl, b8⟩
        have T1 := Lib.hid (R1.out.up b8)
        have T2 := Lib.hid (R2.out.up b8)
        have TN := Lib.hid (RN.out.up b8)
        have HW8 : Hid (Below w.heap.size w w8) := HW9.out.trans (b8.mono HW9.out.size)
        clear R1 R2 RN HW9 C8 b8
        by_cases hf1 : f = 1
        · subst hf1
          go_wp2_with fail
          have C9 := Lib.hid (conv (eq_g w8 A1 A2 L L m1 m2 c1 c2 HE1.out HE2.out T1.out T2.out (by omega)) (congrArg Value.bool (decide_eq_true rfl)))
          refine C9.out.mono ?_
          rintro e w9 ⟨rfl, b9⟩
          have HW9 : Hid (Below w.heap.size w w9) := HW8.out.trans (b9.mono HW8.out.size)
          have Sa9 := Lib.hid (T1.out.up b9)
          have Sq9 := Lib.hid (TN.out.up b9)
          clear C9 b9 HW8 T1 TN
          have C10 := Lib.hid (pof_any w9 B nu k d HQ.out Sq9.out (by omega))
          go_wp2_with fail
          refine C10.out.mono ?_
          rintro e w10 p10
          obtain ⟨A10, n10, c10, rfl, e10, a10, f10, g10, r10, o10, b10⟩ := post_runs p10 (fit_order (ofL_spec nu).1)
          have HW10 : Hid (Below w.heap.size w w10) := HW9.out.trans (b10.mono HW9.out.size)
          have Sa10 := Lib.hid (Sa9.out.up b10)
          have R10 := Lib.hid r10
          have E10 := Lib.hid e10
          have N10 := Lib.hid a10
          clear C10 b10 HW9 Sa9 p10 r10 o10 e10 a10
          have C11 := Lib.hid (conv (eq_g w10 A10 A1 (ofL nu) L n10 m1 c10 c1 E10.out HE1.out R10.out Sa10.out (by omega)) (congrArg Value.bool (decide_eq_true HL.out)))
          go_wp2_with fail
          refine C11.out.mono ?_
          rintro e w11 ⟨rfl, b11⟩
          have HW11 : Hid (Below w.heap.size w w11) := HW10.out.trans (b11.mono HW10.out.size)
          have Sa11 := Lib.hid (Sa10.out.up b11)
          clear C11 b11 HW10 Sa10
          have C12 := Lib.hid (conv (pgood_any w11 A1 L m1 c1 HE1.out Sa11.out (by omega)) (congrArg Value.bool (decide_eq_true HG.out)))
          go_wp2_with fail
          refine C12.out.mono ?_
          rintro e w12 ⟨rfl, b12⟩
          have HW12 : Hid (Below w.heap.size w w12) := HW11.out.trans (b12.mono HW11.out.size)
          have Sa12 := Lib.hid (Sa11.out.up b12)
          clear C12 b12 HW11 Sa11
          have C13 := Lib.hid (conv (phas_any w12 A1 L m1 c1 1 HE1.out Sa12.out (by omega)) (congrArg Value.bool HF0.out))
          go_wp2_with fail
          refine C13.out.mono ?_
          rintro e w13 ⟨rfl, b13⟩
          have HW13 : Hid (Below w.heap.size w w13) := HW12.out.trans (b13.mono HW12.out.size)
          have Sa13 := Lib.hid (Sa12.out.up b13)
          clear C13 b13 HW12 Sa12
          have C14 := Lib.hid (works_any w13)
          go_wp2_with fail
          refine C14.out.mono ?_
          rintro e w14 ⟨rfl, b14⟩
          have HW14 : Hid (Below w.heap.size w w14) := HW13.out.trans (b14.mono HW13.out.size)
          have Sa14 := Lib.hid (Sa13.out.up b14)
          clear C14 b14 HW13 Sa13
          go_wp2
          go_ret
          exact ⟨rfl, HW14.out⟩
        · have hne : ((f : Int) == 1) = false := by rw [beq_eq_false_iff_ne]; omega
          have hw : IntKind.u64.wrap ((f : Int) - 1) = ((f - 1 : Nat) : Int) := by simp [IntKind.wrap, IntKind.bits, IntKind.signed]; omega
          have HF1 : Hid (has L (f - 1) = true) := HF3.out hf1
          go_wp2_with fail
          have C9 := Lib.hid (conv (eq_g w8 A1 A2 L L m1 m2 c1 c2 HE1.out HE2.out T1.out T2.out (by omega)) (congrArg Value.bool (decide_eq_true rfl)))
          refine C9.out.mono ?_
          rintro e w9 ⟨rfl, b9⟩
          have HW9 : Hid (Below w.heap.size w w9) := HW8.out.trans (b9.mono HW8.out.size)
          have Sa9 := Lib.hid (T1.out.up b9)
          have Sq9 := Lib.hid (TN.out.up b9)
          clear C9 b9 HW8 T1 TN
          have C10 := Lib.hid (pof_any w9 B nu k d HQ.out Sq9.out (by omega))
          go_wp2_with fail
          refine C10.out.mono ?_
          rintro e w10 p10
          obtain ⟨A10, n10, c10, rfl, e10, a10, f10, g10, r10, o10, b10⟩ := post_runs p10 (fit_order (ofL_spec nu).1)
          have HW10 : Hid (Below w.heap.size w w10) := HW9.out.trans (b10.mono HW9.out.size)
          have Sa10 := Lib.hid (Sa9.out.up b10)
          have R10 := Lib.hid r10
          have E10 := Lib.hid e10
          have N10 := Lib.hid a10
          clear C10 b10 HW9 Sa9 p10 r10 o10 e10 a10
          have C11 := Lib.hid (conv (eq_g w10 A10 A1 (ofL nu) L n10 m1 c10 c1 E10.out HE1.out R10.out Sa10.out (by omega)) (congrArg Value.bool (decide_eq_true HL.out)))
          go_wp2_with fail
          refine C11.out.mono ?_
          rintro e w11 ⟨rfl, b11⟩
          have HW11 : Hid (Below w.heap.size w w11) := HW10.out.trans (b11.mono HW10.out.size)
          have Sa11 := Lib.hid (Sa10.out.up b11)
          clear C11 b11 HW10 Sa10
          have C12 := Lib.hid (conv (pgood_any w11 A1 L m1 c1 HE1.out Sa11.out (by omega)) (congrArg Value.bool (decide_eq_true HG.out)))
          go_wp2_with fail
          refine C12.out.mono ?_
          rintro e w12 ⟨rfl, b12⟩
          have HW12 : Hid (Below w.heap.size w w12) := HW11.out.trans (b12.mono HW11.out.size)
          have Sa12 := Lib.hid (Sa11.out.up b12)
          clear C12 b12 HW11 Sa11
          have C13 := Lib.hid (conv (phas_any w12 A1 L m1 c1 f HE1.out Sa12.out (by omega)) (congrArg Value.bool HF0.out))
          go_wp2_with fail
          refine C13.out.mono ?_
          rintro e w13 ⟨rfl, b13⟩
          have HW13 : Hid (Below w.heap.size w w13) := HW12.out.trans (b13.mono HW12.out.size)
          have Sa13 := Lib.hid (Sa12.out.up b13)
          clear C13 b13 HW12 Sa12
          have C14 := Lib.hid (conv (phas_any w13 A1 L m1 c1 (f - 1) HE1.out Sa13.out (by omega)) (congrArg Value.bool HF1.out))
          go_wp2_with fail
          refine C14.out.mono ?_
          rintro e w14 ⟨rfl, b14⟩
          have HW14 : Hid (Below w.heap.size w w14) := HW13.out.trans (b14.mono HW13.out.size)
          have Sa14 := Lib.hid (Sa13.out.up b14)
          clear C14 b14 HW13 Sa13
          have C15 := Lib.hid (works_any w14)
          go_wp2_with fail
          refine C15.out.mono ?_
          rintro e w15 ⟨rfl, b15⟩
          have HW15 : Hid (Below w.heap.size w w15) := HW14.out.trans (b15.mono HW14.out.size)
          have Sa15 := Lib.hid (Sa14.out.up b15)
          clear C15 b15 HW14 Sa14
          go_wp2
          go_ret
          exact ⟨rfl, HW15.out⟩
  · have d2 : decide ((200 : Int) < (len : Int)) = true := decide_eq_true (by omega)
    go_enter Try.func6, Try.ntmps6
    go_wp2_with fail
    refine FW.out.mono ?_
    rintro e w2 ⟨rfl, b2⟩
    go_wp2
    go_ret
    exact ⟨rfl, b2⟩
end Go.Proofs.Ytaoojiacdkabbaa.Ru
