/- What the cards of layer field share: what the rows' list gives the walks (the table of names), and a world that holds what it lists. No condition. -/
import Derived.Test.YtmaiilhfdiimjaaDoorCards
import Derived.Test.YtmaiilhfdiimjaaDoorTie
import Derived.Test.YtmaiilhfdiimjaaDoorFFrame
import Derived.Test.YtmaiilhfdiimjaaDoorFName
import Derived.Lib.LaidTab
namespace Go.Proofs.YtmaiilhfdiimjaaDoor.Fd
open Go.ChangeShapes Go.WideShapes Go.ChangeAt Go.RowKit Go.Deep
set_option linter.unusedVariables false

theorem gNames : Tryd.prog.globalNamed "epitaph/field.names" = some 0 := by kernel_rfl
theorem gNamesType : (Tryd.prog.globals[0]?).map (·.type) = some 33 := by kernel_rfl
theorem cellsT : Tryd.prog.cellsOf 33 = 6 := by kernel_rfl
theorem cellsS : Tryd.prog.cellsOf 9 = 1 := by kernel_rfl

/-- an array of six texts that reads as a list of texts holds them. -/
theorem texts_of {H : Type} {enc : TypeId × Value → H} {w : World} {base : Nat} {sp : Nat → Bool} {held : Bool} {fuel : Nat} {cs : List Value} {zs : List (List UInt8)} {p : List MemPlace}
    (h : DataW.trod enc Tryd.prog w base sp held fuel 33 cs = some (.agg (zs.map fun z => .lit (.string z)), p)) : ∀ (i : Nat) (z : List UInt8), i < 6 → zs[i]? = some z → cs[i]? = some (.string (ba z)) := by
  intro i z hi hz
  cases fuel with
  | zero => simp [DataW.trod] at h
  | succ fuel =>
    simp only [DataW.trod, Tryd.underlying33, cellsT, cellsS, Nat.mul_one] at h
    split at h
    · obtain ⟨xs, hm, hx⟩ := Option.map_eq_some_iff.1 h
      have hxs : xs.map (·.1) = zs.map fun z => (DataW.lit (.string z) : DataW H) := by
        have := congrArg Prod.fst hx
        simpa using this
      obtain ⟨b, hb, hf⟩ := Lib.mapM_at hm i i (by simp [hi])
      obtain ⟨s, hc, rfl, _⟩ := DataW.trod_string Tryd.underlying9 hf
      have h1 : cs[i]? = some (.string s) := by
        have := congrArg (·[0]?) hc
        simpa [List.getElem?_take, List.getElem?_drop] using this
      have h2 : (xs.map (·.1))[i]? = some (DataW.lit (.string s.data.toList) : DataW H) := by simp [hb]
      rw [hxs] at h2
      simp only [List.getElem?_map, hz, Option.map_some, Option.some.injEq, DataW.lit.injEq, Lit.string.injEq] at h2
      rw [h1, h2, ba_list]
    · cases h

/-- WHAT THE ROWS' LIST GIVES: the table holds the names. -/
theorem names_of {W : World} (h : laidMet Tryd.prog [("epitaph/field.names", Rows.laid_epitaph_field_names)] W) : Names W := by
  obtain ⟨ps, ⟨g', t', cs, fuel, p, q, hg', ht', hvar, hd, _, _⟩, _⟩ := h
  obtain rfl := Option.some.inj (gNames.symm.trans hg')
  obtain rfl := Option.some.inj (gNamesType.symm.trans ht')
  have key := texts_of (zs := (List.range 6).map nameB) hd
  have hcell : ∀ i : Nat, i < 6 → W.cell? ⟨0, i, none⟩ = some (.string (ba (nameB i))) := by
    intro i hi
    rw [World.var?_cell gNames hvar i]
    have h1 := key i (nameB i) hi (by simp [hi])
    simpa using h1
  exact ⟨World.block_lt_of_cell? W _ (hcell 0 (by omega)), hcell⟩

/-- A WORLD FOR THE WITNESS: the settled one, the table holding what its initialiser lays. -/
noncomputable def laidWorld (os : Os) : World :=
  { World.holding Tryd.prog os ⟨#[], #[], []⟩ with heap := (World.holding Tryd.prog os ⟨#[], #[], []⟩).heap.modify 0 fun
      | .cells _ t frozen => .cells #[.string (ba []), .string (ba [110, 97, 109, 101]), .string (ba [112, 104, 111, 110, 101]), .string (ba [109, 97, 105, 108]), .string (ba [116, 111, 119, 110]), .string (ba [110, 111, 116, 101])] t frozen
      | o => o }
end Go.Proofs.YtmaiilhfdiimjaaDoor.Fd
