/- FieldQuotes: the law's walk. -/
import Derived.Test.YtmaiilhfdiimjaaFWorks
import Derived.Test.YtmaiilhfdiimjaaFRquote
import Derived.Test.YtmaiilhfdiimjaaFRunq
namespace Go.Proofs.Ytmaiilhfdiimjaa.Fd
open Go.ChangeShapes Go.WideShapes Go.ChangeAt Go.RowKit
set_option linter.unusedVariables false

set_option maxHeartbeats 8000000 in
theorem quotes_walk (w : World) (s : ByteArray) (hs : s.size ≤ 281474976710656) :
    Calls Try.prog 3 #[.string s] w fun e w' => e = .returned (.bool true) ∧ Below w.heap.size w w' := by
  by_cases h1000 : 1000 < s.size
  · have d1 : decide (1000 < (s.size : Int)) = true := decide_eq_true (by omega)
    go_enter Try.func3, Try.ntmps3
    go_wp2_with fail
    refine (works_any _).mono ?_
    rintro e w1 ⟨rfl, hb1⟩
    have HB1 := Lib.hid hb1
    clear hb1
    go_wp2
    go_ret
    exact ⟨rfl, HB1.out⟩
  · have d1 : decide (1000 < (s.size : Int)) = false := decide_eq_false (by omega)
    have CU := fun W => punquote_any s W (by omega)
    have CR := fun W => runquote_any s W (by omega)
    have CQ := fun W => pquote_any s W (by omega)
    have CS := fun W => rquote_any s W (by omega)
    generalize unqB s.data.toList = x at CU CR
    generalize ba (quoB s.data.toList) = q at CQ CS
    unfold unqV at CU CR
    generalize ba (tx x) = t at CU CR
    generalize ba (rs x) = r at CU CR
    generalize x.isSome = b at CU CR
    go_enter Try.func3, Try.ntmps3
    go_wp2_with fail
    refine (CU _).mono ?_
    rintro e w1 ⟨rfl, hb1⟩
    have HB1 := Lib.hid hb1
    clear hb1
    go_wp2_with fail
    refine (CR _).mono ?_
    rintro e w2 ⟨rfl, m, rfl⟩
    have HB2 : Hid (Below w.heap.size w (w1.drewN m)) := HB1.out.trans (below_drewN _ _ m)
    generalize w1.drewN m = w3 at HB2 ⊢
    go_wp2_with fail
    refine (CQ _).mono ?_
    rintro e w4 ⟨rfl, hb4⟩
    have HB4 : Hid (Below w.heap.size w w4) := HB2.out.trans (hb4.mono HB2.out.size)
    clear hb4
    go_wp2_with fail
    refine (CS _).mono ?_
    rintro e w5 ⟨rfl, rfl⟩
    go_wp2_with fail
    refine (works_any _).mono ?_
    rintro e w6 ⟨rfl, hb6⟩
    have HB6 := Lib.hid (HB4.out.trans (hb6.mono HB4.out.size))
    clear hb6
    go_wp2
    go_ret
    exact ⟨rfl, HB6.out⟩
end Go.Proofs.Ytmaiilhfdiimjaa.Fd
