/- The contracts of the document's put and Texts of layer reg. -/
import Derived.Test.YtdmjhaifilfniaaGAhead
namespace Go.Proofs.Ytdmjhaifilfniaa.Rg
open Go.ChangeShapes Go.WideShapes Go.ChangeAt Go.RowKit
set_option linter.unusedVariables false

theorem stays_text {w W : World} {ad : Addr} {k : Nat} {x : ByteArray} (h : w.cell? (ad.add k) = some (.string x)) (hb : Below w.heap.size w W) : W.cell? (ad.add k) = some (.string x) := stays hb h
/-- a list of texts of one's own while it is filled. -/
def PRel (w : World) (n b : Nat) (o : Nat → List ByteArray) (v i : Value) (wr : World) : Prop :=
  ∃ (k m c1 : Nat) (A1 : Option Addr), k ≤ n ∧ i = .int .i64 (k : Int) ∧ v = .slice A1 m c1 ∧ (o k).length = m ∧ m ≤ b + k ∧ wr.ownsRow w.heap.size 9 1 (.slice A1 m c1) m (Kd.tv (o k)) ∧ Below w.heap.size w wr
theorem p_same {w wr : World} {n b k m c1 : Nat} {o : Nat → List ByteArray} {A1 : Option Addr} (hk : k < n) (hE : o (k + 1) = o k) (hm : (o k).length = m) (hmn : m ≤ b + k) (ho : wr.ownsRow w.heap.size 9 1 (.slice A1 m c1) m (Kd.tv (o k))) (hw : Below w.heap.size w wr) :
    PRel w n b o (.slice A1 m c1) (.int .i64 ((k : Int) + 1)) wr := ⟨k + 1, m, c1, A1, hk, by go_num, rfl, by rw [hE]; exact hm, by omega, by rw [hE]; exact ho, hw⟩
theorem p_next {w wr : World} {n b k m c1 : Nat} {o : Nat → List ByteArray} {x : ByteArray} {A1 : Option Addr} (hk : k < n) (hE : o (k + 1) = o k ++ [x]) (hm : (o k).length = m) (hmn : m ≤ b + k) (ho : wr.ownsRow w.heap.size 9 1 (.slice A1 (m + 1) c1) (m + 1) (Kd.tv (o k ++ [x]))) (hw : Below w.heap.size w wr) :
    PRel w n b o (.slice A1 (m + 1) c1) (.int .i64 ((k : Int) + 1)) wr := ⟨k + 1, m + 1, c1, A1, hk, by go_num, rfl, by rw [hE, List.length_append, hm]; rfl, by omega, by rw [hE]; exact ho, hw⟩
/-- the texts ahead, and all with the new one and those behind. -/
def fstT (l : List ByteArray) (s : ByteArray) (k : Nat) : List ByteArray := (l.take k).filter (fun x => ltT x s)
def sndT (l : List ByteArray) (s : ByteArray) (k : Nat) : List ByteArray := l.filter (fun x => ltT x s) ++ [s] ++ (l.take k).filter (fun x => gtT x s)
theorem fst_keep {l : List ByteArray} {s x : ByteArray} {k : Nat} (h : l[k]? = some x) (hp : Op.bytesLess x.toList s.toList = true) : fstT l s (k + 1) = fstT l s k ++ [x] := by
  unfold fstT
  rw [List.take_add_one, h, List.filter_append]
  simp [ltT, hp]
theorem fst_skip {l : List ByteArray} {s x : ByteArray} {k : Nat} (h : l[k]? = some x) (hp : Op.bytesLess x.toList s.toList = false) : fstT l s (k + 1) = fstT l s k := by
  unfold fstT
  rw [List.take_add_one, h, List.filter_append]
  simp [ltT, hp]
theorem snd_keep {l : List ByteArray} {s x : ByteArray} {k : Nat} (h : l[k]? = some x) (hp : gtT x s = true) : sndT l s (k + 1) = sndT l s k ++ [x] := by
  unfold sndT
  rw [List.take_add_one, h, List.filter_append]
  simp [hp]
theorem snd_skip {l : List ByteArray} {s x : ByteArray} {k : Nat} (h : l[k]? = some x) (hp : gtT x s = false) : sndT l s (k + 1) = sndT l s k := by
  unfold sndT
  rw [List.take_add_one, h, List.filter_append]
  simp [hp]
theorem fst_all {l : List ByteArray} {s : ByteArray} {n : Nat} (h : l.length = n) : sndT l s 0 = fstT l s n ++ [s] := by
  unfold fstT sndT
  rw [List.take_of_length_le (show l.length ≤ n by omega)]
  simp
theorem snd_all {l : List ByteArray} {s : ByteArray} {n : Nat} (h : l.length = n) : sndT l s n = putT l s := by
  unfold sndT putT
  rw [List.take_of_length_le (by omega)]

set_option maxHeartbeats 4000000 in
theorem rput_any (w : World) (A : Option Addr) (l : List ByteArray) (n c : Nat) (s : ByteArray) (h : Kd.TextsAt w w.heap.size A l n c) (hs : Kd.Short s) (h40 : n ≤ 1099511627776) :
    Calls Try.prog 18 #[.slice A n c, .string s] w (TextPost w (putT l s)) := by
  have H := Lib.hid h
  have HS := Lib.hid hs
  clear h hs
  go_enter Try.func18, Try.ntmps18
  go_wp2_with fail
  go_loopw [5, 6] (fun v i wr => PRel w n 0 (fstT l s) v i wr) (fun _ i _ => n - (intOf i).toNat)
  case atStart => exact ⟨0, 0, 0, none, Nat.zero_le _, rfl, rfl, rfl, Nat.zero_le _, World.ownsRow_nil _ _ _ _, Below.refl _ _⟩
  case round =>
    obtain ⟨k, m, c1, A1, hk, rfl, rfl, hm, hmn, ho, hw⟩ := hrel
    have HM := Lib.hid hm
    have HO := Lib.hid ho
    have HW := Lib.hid hw
    clear hm ho hw
    by_cases hlt : k < n
    · obtain ⟨ad, x, rfl, _, hlx, hsh, hc⟩ := H.out.at_ hlt
      have hcr := stays_text hc HW.out
      cases hl : Op.bytesLess x.toList s.toList with
      | false =>
        have HR := Lib.hid (p_same hlt (fst_skip hlx hl) HM.out hmn HO.out HW.out)
        clear hlx
        go_wp2
        go_roundw
        case rel => exact HR.out
        case measure => simp [intOf]; omega
      | true =>
        have HE := Lib.hid (fst_keep hlx hl)
        clear hlx
        have HLO : Hid (m + 1 ≤ 8796093022208) := Lib.hid (by omega)
        have HWA : Hid (Below w.heap.size w (wr.alloc (.cells #[.string x] 9))) := Lib.hid (bel_alloc _ HW.out)
        go_wp2_with (at_builtin; refine wpList_text rfl (.tmp 20) (.tmp 25) rfl rfl _ w.heap.size m (.slice A1 m c1) (fstT l s k) (some ⟨wr.heap.size, 0, none⟩) [x] 1 1 rfl rfl (HO.out.alloc _) (fun h => by cases h) (lies_text wr x) rfl HLO.out HWA.out.size ?_; intro A3 c3 V3 ho3 hg3; have HO3 := Lib.hid ho3; have HW3 := Lib.hid (text_grown (HO.out.alloc _) HWA.out hg3); clear ho3 hg3)
        go_roundw
        case rel => exact p_next hlt HE.out HM.out hmn HO3.out HW3.out
        case measure => simp [intOf]; omega
    · obtain rfl : k = n := by omega
      have HLO : Hid (m + 1 ≤ 8796093022208) := Lib.hid (by omega)
      have HWA : Hid (Below w.heap.size w (wr.alloc (.cells #[.string s] 9))) := Lib.hid (bel_alloc _ HW.out)
      have HE := Lib.hid (fst_all (s := s) H.out.len)
      go_wp2_with (at_builtin; refine wpList_text rfl (.tmp 27) (.tmp 29) rfl rfl _ w.heap.size m (.slice A1 m c1) (fstT l s k) (some ⟨wr.heap.size, 0, none⟩) [s] 1 1 rfl rfl (HO.out.alloc _) (fun h => by cases h) (lies_text wr s) rfl HLO.out HWA.out.size ?_; intro A3 c3 V3 ho3 hg3; have HO3 := Lib.hid ho3; have HW3 := Lib.hid (text_grown (HO.out.alloc _) HWA.out hg3); clear ho3 hg3)
      have HP : Hid (PRel w k (m + 1) (sndT l s) (.slice A3 (m + 1) c3) (.int .i64 0) V3) := Lib.hid ⟨0, m + 1, c3, A3, Nat.zero_le _, rfl, rfl, by rw [HE.out, List.length_append, HM.out]; rfl, by omega, by rw [HE.out]; exact HO3.out, HW3.out⟩
      clear HO HW HWA HO3 HW3 HE HM HLO
      go_loopw [5, 7] (fun v i wr => PRel w k (m + 1) (sndT l s) v i wr) (fun _ i _ => k - (intOf i).toNat)
      case atStart => exact HP.out
      case round =>
        clear HP
        obtain ⟨i, q, cq, AQ, hi, rfl, rfl, hm, hmq, ho, hw⟩ := hrel
        have HM := Lib.hid hm
        have HO := Lib.hid ho
        have HW := Lib.hid hw
        clear hm ho hw
        by_cases hlt : i < k
        · obtain ⟨ad, x, rfl, _, hlx, hsh, hc⟩ := H.out.at_ hlt
          have hcr := stays_text hc HW.out
          cases hl : Op.bytesLess x.toList s.toList with
          | true =>
            have hgt : gtT x s = false := by unfold gtT; rw [hl]; rfl
            have HR := Lib.hid (p_same hlt (snd_skip hlx hgt) HM.out hmq HO.out HW.out)
            clear hlx hgt
            go_wp2
            go_roundw
            case rel => exact HR.out
            case measure => simp [intOf]; omega
          | false =>
            cases he : (x.toList == s.toList) with
            | true =>
              have hgt : gtT x s = false := by unfold gtT; rw [hl, he]; rfl
              have HR := Lib.hid (p_same hlt (snd_skip hlx hgt) HM.out hmq HO.out HW.out)
              clear hlx hgt
              go_wp2
              go_roundw
              case rel => exact HR.out
              case measure => simp [intOf]; omega
            | false =>
              have hgt : gtT x s = true := by unfold gtT; rw [hl, he]; rfl
              have HE := Lib.hid (snd_keep hlx hgt)
              clear hlx hgt
              have HLO : Hid (q + 1 ≤ 8796093022208) := Lib.hid (by omega)
              have HWA : Hid (Below w.heap.size w (wr.alloc (.cells #[.string x] 9))) := Lib.hid (bel_alloc _ HW.out)
              go_wp2_with (at_builtin; refine wpList_text rfl (.tmp 43) (.tmp 48) rfl rfl _ w.heap.size q (.slice AQ q cq) (sndT l s i) (some ⟨wr.heap.size, 0, none⟩) [x] 1 1 rfl rfl (HO.out.alloc _) (fun h => by cases h) (lies_text wr x) rfl HLO.out HWA.out.size ?_; intro A3 c3 V3 ho3 hg3; have HO3 := Lib.hid ho3; have HW3 := Lib.hid (text_grown (HO.out.alloc _) HWA.out hg3); clear ho3 hg3)
              go_roundw
              case rel => exact p_next hlt HE.out HM.out hmq HO3.out HW3.out
              case measure => simp [intOf]; omega
        · obtain rfl : i = k := by omega
          have HE := Lib.hid (snd_all (s := s) H.out.len)
          go_wp2
          go_ret
          rw [HE.out] at HO HM
          exact ⟨AQ, q, cq, rfl, own_texts HO.out HM.out (fun y hy => (put_mem y).1 hy |>.elim (H.out.fit y) (fun e => by rw [e]; exact HS.out)) (by omega), own_new HO.out, HW.out⟩

theorem map_at {l : List Vl} {k : Nat} {x : Vl} (h : l[k]? = some x) : (l.map Prod.snd)[k]? = some x.2 := by rw [List.getElem?_map, h]; rfl
set_option maxHeartbeats 4000000 in
theorem rtexts_any (w : World) (A : Option Addr) (l : List Vl) (n c : Nat) (h : ValsAt w w.heap.size A l n c) (h40 : n ≤ 1099511627776) :
    Calls Try.prog 10 #[.slice A n c] w (TextPost w (textsT (l.map Prod.snd))) := by
  have H := Lib.hid h
  clear h
  go_enter Try.func10, Try.ntmps10
  go_wp2_with fail
  go_loopw [3, 4] (fun v i wr => ∃ (k m c1 : Nat) (A1 : Option Addr), k ≤ n ∧ i = .int .i64 (k : Int) ∧ v = .slice A1 m c1 ∧ m ≤ k ∧ Kd.TextsAt wr wr.heap.size A1 (textsT ((l.map Prod.snd).take k)) m c1 ∧ NewT w.heap.size A1 m ∧ Below w.heap.size w wr) (fun _ i _ => n - (intOf i).toNat)
  case atStart => exact ⟨0, 0, 0, none, Nat.zero_le _, rfl, rfl, Nat.zero_le _, Kd.TextsAt.none_ _ _, (fun ad e _ => by cases e), Below.refl _ _⟩
  case round =>
    obtain ⟨k, m, c1, A1, hk, rfl, rfl, hmk, ht, hnw, hw⟩ := hrel
    have HT := Lib.hid ht
    have HW := Lib.hid hw
    clear ht hw
    by_cases hlt : k < n
    · obtain ⟨ad, x, rfl, _, hlx, hfx, hcx⟩ := H.out.at_ hlt
      obtain ⟨_, _, c2⟩ := hcx.kept HW.out
      have HN := Lib.hid (texts_next (map_at hlx))
      have CP := rput_any wr A1 _ m c1 x.2 HT.out hfx.txt (by omega)
      clear hlx hcx
      go_wp2_with fail
      refine CP.mono ?_
      rintro e w2 ⟨A2, n2, c2', rfl, ht, hn, hb⟩
      have HT2 := Lib.hid ht
      have HB2 := Lib.hid hb
      have HN2 := Lib.hid (hn.less HW.out.size)
      have hn2 : n2 ≤ k + 1 := by
        have h1 := put_long (textsT ((l.map Prod.snd).take k)) x.2 (texts_ord _)
        rw [ht.len, HT.out.len] at h1
        omega
      clear ht hb hn
      go_wp2
      go_roundw
      case rel => exact ⟨k + 1, n2, c2', A2, by omega, by go_num, rfl, hn2, by rw [HN.out]; exact HT2.out, HN2.out, HW.out.trans (HB2.out.mono HW.out.size)⟩
      case measure => simp [intOf]; omega
    · obtain rfl : k = n := by omega
      go_wp2
      go_ret
      have h := HT.out
      rw [List.take_of_length_le (by rw [List.length_map, H.out.len]; exact Nat.le_refl _)] at h
      exact ⟨A1, m, c1, rfl, h, hnw, HW.out⟩
end Go.Proofs.Ytdmjhaifilfniaa.Rg
