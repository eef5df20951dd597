/-
  DERIVED. GIVEN WITH THE SEED: THE CARDS: each row of YtoojlalpcmlanaaDoorRows.lean that lists a variable, with what it lists TIED to the program's text (the seventh form; the later family's looks); each row that meets fmt, with fmt's text TOLD by the authors' own Lean function (tested against real Go, not proved from fmt's source: count such statements apart). THE CARD IS WHAT COUNTS. Prove the row's statement (the work); the ties are given (YtoojlalpcmlanaaDoorTie.lean); close each card by the builder's one call (the guide's Derived/Test/ToyasCard.lean, 'card_holds'). Laid BY PROGRAM, IN A SANDBOX (cutbox-door.mjs). By AI agents, Wed Nov 11 2026. No macro, syntax, notation, axiom, sorry.
-/
import Derived.Test.YtoojlalpcmlanaaDoorRows
import GoSem.ClaimSeven
namespace Go.Proofs.YtoojlalpcmlanaaDoor
namespace Rows

/-- THE TIED CARD OF 'epitaphlaw07.DotTells'. -/
def dotTellsCard : Claim7 := { stood := { row := dotTellsRow, standIns := [], harness := (true, "87b8c83b1075e7d0027a3554c1051dfb3f3f971d67e5943ed8e3cd2e64c4c05f"), looks := true }, kinds := [], alts := [], laidByText := true, laidKinds := [.data, .data, .data], laidTests := true, laidLooks := .later }
def DotTellsCardSaid : Prop := Claim7.holds Tryd.pinned (.plain (OpenSpec.ofChange dotTellsSpec)) dotTellsCard

/-- THE TIED CARD OF 'epitaphlaw07.DotLists'. -/
def dotListsCard : Claim7 := { stood := { row := dotListsRow, standIns := [], harness := (true, "87b8c83b1075e7d0027a3554c1051dfb3f3f971d67e5943ed8e3cd2e64c4c05f"), looks := true }, kinds := [], alts := [], laidByText := true, laidKinds := [.data, .data, .data], laidTests := true, laidLooks := .later }
def DotListsCardSaid : Prop := Claim7.holds Tryd.pinned (.plain (OpenSpec.ofChange dotListsSpec)) dotListsCard

/-- THE TIED CARD OF 'epitaphlaw07.DotParses'. -/
def dotParsesCard : Claim7 := { stood := { row := dotParsesRow, standIns := [], harness := (true, "87b8c83b1075e7d0027a3554c1051dfb3f3f971d67e5943ed8e3cd2e64c4c05f"), looks := true }, kinds := [], alts := [], laidByText := true, laidKinds := [.data, .data, .data, .sentinel, .sentinel], laidTests := true, laidLooks := .later }
def DotParsesCardSaid : Prop := Claim7.holds Tryd.pinned (.plain (OpenSpec.ofChange dotParsesSpec)) dotParsesCard

/-- THE TIED CARD OF 'epitaphlaw07.DotPacks'. -/
def dotPacksCard : Claim7 := { stood := { row := dotPacksRow, standIns := [], harness := (true, "87b8c83b1075e7d0027a3554c1051dfb3f3f971d67e5943ed8e3cd2e64c4c05f"), looks := true }, kinds := [], alts := [], laidByText := true, laidKinds := [.data, .data, .data, .sentinel, .sentinel], laidTests := true, laidLooks := .later }
def DotPacksCardSaid : Prop := Claim7.holds Tryd.pinned (.plain (OpenSpec.ofChange dotPacksSpec)) dotPacksCard

/-- THE TIED CARD OF 'epitaphlaw07.DotOrders'. -/
def dotOrdersCard : Claim7 := { stood := { row := dotOrdersRow, standIns := [], harness := (true, "87b8c83b1075e7d0027a3554c1051dfb3f3f971d67e5943ed8e3cd2e64c4c05f"), looks := true }, kinds := [], alts := [], laidByText := true, laidKinds := [.data, .data, .data], laidTests := true, laidLooks := .later }
def DotOrdersCardSaid : Prop := Claim7.holds Tryd.pinned (.plain (OpenSpec.ofChange dotOrdersSpec)) dotOrdersCard

/-- THE SECOND FORM's CARD OF 'epitaphlaw07.DotTells'. -/
def dotTellsUptoCard : Claim7 := { stood := { row := dotTellsUptoRow, standIns := [], harness := (true, "87b8c83b1075e7d0027a3554c1051dfb3f3f971d67e5943ed8e3cd2e64c4c05f"), looks := true }, kinds := [], alts := [], laidByText := true, laidKinds := [.data, .data, .data], laidTests := true, laidLooks := .later }
def DotTellsUptoCardSaid : Prop := Claim7.holds Tryd.pinned (.plain (OpenSpec.upto dotTellsSpec)) dotTellsUptoCard

/-- THE SECOND FORM's CARD OF 'epitaphlaw07.DotLists'. -/
def dotListsUptoCard : Claim7 := { stood := { row := dotListsUptoRow, standIns := [], harness := (true, "87b8c83b1075e7d0027a3554c1051dfb3f3f971d67e5943ed8e3cd2e64c4c05f"), looks := true }, kinds := [], alts := [], laidByText := true, laidKinds := [.data, .data, .data], laidTests := true, laidLooks := .later }
def DotListsUptoCardSaid : Prop := Claim7.holds Tryd.pinned (.plain (OpenSpec.upto dotListsSpec)) dotListsUptoCard

/-- THE SECOND FORM's CARD OF 'epitaphlaw07.DotParses'. -/
def dotParsesUptoCard : Claim7 := { stood := { row := dotParsesUptoRow, standIns := [], harness := (true, "87b8c83b1075e7d0027a3554c1051dfb3f3f971d67e5943ed8e3cd2e64c4c05f"), looks := true }, kinds := [], alts := [], laidByText := true, laidKinds := [.data, .data, .data, .sentinel, .sentinel], laidTests := true, laidLooks := .later }
def DotParsesUptoCardSaid : Prop := Claim7.holds Tryd.pinned (.plain (OpenSpec.upto dotParsesSpec)) dotParsesUptoCard

/-- THE SECOND FORM's CARD OF 'epitaphlaw07.DotPacks'. -/
def dotPacksUptoCard : Claim7 := { stood := { row := dotPacksUptoRow, standIns := [], harness := (true, "87b8c83b1075e7d0027a3554c1051dfb3f3f971d67e5943ed8e3cd2e64c4c05f"), looks := true }, kinds := [], alts := [], laidByText := true, laidKinds := [.data, .data, .data, .sentinel, .sentinel], laidTests := true, laidLooks := .later }
def DotPacksUptoCardSaid : Prop := Claim7.holds Tryd.pinned (.plain (OpenSpec.upto dotPacksSpec)) dotPacksUptoCard

/-- THE SECOND FORM's CARD OF 'epitaphlaw07.DotOrders'. -/
def dotOrdersUptoCard : Claim7 := { stood := { row := dotOrdersUptoRow, standIns := [], harness := (true, "87b8c83b1075e7d0027a3554c1051dfb3f3f971d67e5943ed8e3cd2e64c4c05f"), looks := true }, kinds := [], alts := [], laidByText := true, laidKinds := [.data, .data, .data], laidTests := true, laidLooks := .later }
def DotOrdersUptoCardSaid : Prop := Claim7.holds Tryd.pinned (.plain (OpenSpec.upto dotOrdersSpec)) dotOrdersUptoCard
end Rows
end Go.Proofs.YtoojlalpcmlanaaDoor
