/-
  DERIVED. GIVEN WITH THE SEED: THE CARDS: each row of YtdnobplhfbgbaaaGreatDoorRows.lean that lists a variable, with what it lists TIED to the program's text (the seventh form; the later family's looks); each row that meets fmt, with fmt's text TOLD by the authors' own Lean function (tested against real Go, not proved from fmt's source: count such statements apart). THE CARD IS WHAT COUNTS. Prove the row's statement (the work); the ties are given (YtdnobplhfbgbaaaGreatDoorTie.lean); close each card by the builder's one call (the guide's Derived/Test/ToyasCard.lean, 'card_holds'). Laid BY PROGRAM, IN A SANDBOX (cutbox-door.mjs). By AI agents, Wed Nov 11 2026. No macro, syntax, notation, axiom, sorry.
-/
import Derived.Test.YtdnobplhfbgbaaaGreatDoorRows
import GoSem.ClaimSeven
namespace Go.Proofs.YtdnobplhfbgbaaaGreatDoor
namespace Rows

/-- THE TIED CARD OF 'glacislaw8.TreeForms'. -/
def treeFormsCard : Claim7 := { stood := { row := treeFormsRow, standIns := [], harness := (true, "1e44959fcd039b489740f33a6fbd702afdedcf5bee7841eb0e12531b63125b33"), looks := false }, kinds := [], alts := [], laidByText := true, laidKinds := [.data, .pinned], laidTests := true, laidLooks := .later }
def TreeFormsCardSaid : Prop := Claim7.holds Tryz.pinned (.plain (OpenSpec.ofChange treeFormsSpec)) treeFormsCard

/-- THE TIED CARD OF 'glacislaw9.EditAll'. -/
def editAllCard : Claim7 := { stood := { row := editAllRow, standIns := [], harness := (true, "1e44959fcd039b489740f33a6fbd702afdedcf5bee7841eb0e12531b63125b33"), looks := false }, kinds := [], alts := [], laidByText := true, laidKinds := [.data, .pinned], laidTests := true, laidLooks := .later }
def EditAllCardSaid : Prop := Claim7.holds Tryz.pinned (.plain (OpenSpec.ofChange editAllSpec)) editAllCard

/-- THE TIED CARD OF 'glacislaw9.EditMay'. -/
def editMayCard : Claim7 := { stood := { row := editMayRow, standIns := [], harness := (true, "1e44959fcd039b489740f33a6fbd702afdedcf5bee7841eb0e12531b63125b33"), looks := false }, kinds := [], alts := [], laidByText := true, laidKinds := [.data, .pinned], laidTests := true, laidLooks := .later }
def EditMayCardSaid : Prop := Claim7.holds Tryz.pinned (.plain (OpenSpec.ofChange editMaySpec)) editMayCard

/-- THE TIED CARD OF 'glacislaw9.EditMoves'. -/
def editMovesCard : Claim7 := { stood := { row := editMovesRow, standIns := [], harness := (true, "1e44959fcd039b489740f33a6fbd702afdedcf5bee7841eb0e12531b63125b33"), looks := false }, kinds := [], alts := [], laidByText := true, laidKinds := [.data, .pinned], laidTests := true, laidLooks := .later }
def EditMovesCardSaid : Prop := Claim7.holds Tryz.pinned (.plain (OpenSpec.ofChange editMovesSpec)) editMovesCard

/-- THE TIED CARD OF 'glacislaw9.EditForms'. -/
def editFormsCard : Claim7 := { stood := { row := editFormsRow, standIns := [], harness := (true, "1e44959fcd039b489740f33a6fbd702afdedcf5bee7841eb0e12531b63125b33"), looks := false }, kinds := [], alts := [], laidByText := true, laidKinds := [.data, .pinned], laidTests := true, laidLooks := .later }
def EditFormsCardSaid : Prop := Claim7.holds Tryz.pinned (.plain (OpenSpec.ofChange editFormsSpec)) editFormsCard

/-- THE TIED CARD OF 'glacislaw9.EditMakes'. -/
def editMakesCard : Claim7 := { stood := { row := editMakesRow, standIns := [], harness := (true, "1e44959fcd039b489740f33a6fbd702afdedcf5bee7841eb0e12531b63125b33"), looks := false }, kinds := [], alts := [], laidByText := true, laidKinds := [.data, .pinned], laidTests := true, laidLooks := .later }
def EditMakesCardSaid : Prop := Claim7.holds Tryz.pinned (.plain (OpenSpec.ofChange editMakesSpec)) editMakesCard

/-- THE TIED CARD OF 'glacislaw9.EditDrops'. -/
def editDropsCard : Claim7 := { stood := { row := editDropsRow, standIns := [], harness := (true, "1e44959fcd039b489740f33a6fbd702afdedcf5bee7841eb0e12531b63125b33"), looks := false }, kinds := [], alts := [], laidByText := true, laidKinds := [.data, .pinned], laidTests := true, laidLooks := .later }
def EditDropsCardSaid : Prop := Claim7.holds Tryz.pinned (.plain (OpenSpec.ofChange editDropsSpec)) editDropsCard

/-- THE TIED CARD OF 'glacislaw9.EditLinks'. -/
def editLinksCard : Claim7 := { stood := { row := editLinksRow, standIns := [], harness := (true, "1e44959fcd039b489740f33a6fbd702afdedcf5bee7841eb0e12531b63125b33"), looks := false }, kinds := [], alts := [], laidByText := true, laidKinds := [.data, .pinned], laidTests := true, laidLooks := .later }
def EditLinksCardSaid : Prop := Claim7.holds Tryz.pinned (.plain (OpenSpec.ofChange editLinksSpec)) editLinksCard

/-- THE TIED CARD OF 'glacislaw10.BodyAll'. -/
def bodyAllCard : Claim7 := { stood := { row := bodyAllRow, standIns := [], harness := (true, "1e44959fcd039b489740f33a6fbd702afdedcf5bee7841eb0e12531b63125b33"), looks := false }, kinds := [], alts := [], laidByText := true, laidKinds := [.data, .pinned], laidTests := true, laidLooks := .later }
def BodyAllCardSaid : Prop := Claim7.holds Tryz.pinned (.plain (OpenSpec.ofChange bodyAllSpec)) bodyAllCard

/-- THE TIED CARD OF 'glacislaw10.BodyStats'. -/
def bodyStatsCard : Claim7 := { stood := { row := bodyStatsRow, standIns := [], harness := (true, "1e44959fcd039b489740f33a6fbd702afdedcf5bee7841eb0e12531b63125b33"), looks := false }, kinds := [], alts := [], laidByText := true, laidKinds := [.data, .pinned], laidTests := true, laidLooks := .later }
def BodyStatsCardSaid : Prop := Claim7.holds Tryz.pinned (.plain (OpenSpec.ofChange bodyStatsSpec)) bodyStatsCard

/-- THE SECOND FORM's CARD OF 'glacislaw8.TreeForms'. -/
def treeFormsUptoCard : Claim7 := { stood := { row := treeFormsUptoRow, standIns := [], harness := (true, "1e44959fcd039b489740f33a6fbd702afdedcf5bee7841eb0e12531b63125b33"), looks := false }, kinds := [], alts := [], laidByText := true, laidKinds := [.data, .pinned], laidTests := true, laidLooks := .later }
def TreeFormsUptoCardSaid : Prop := Claim7.holds Tryz.pinned (.plain (OpenSpec.upto treeFormsSpec)) treeFormsUptoCard

/-- THE SECOND FORM's CARD OF 'glacislaw9.EditAll'. -/
def editAllUptoCard : Claim7 := { stood := { row := editAllUptoRow, standIns := [], harness := (true, "1e44959fcd039b489740f33a6fbd702afdedcf5bee7841eb0e12531b63125b33"), looks := false }, kinds := [], alts := [], laidByText := true, laidKinds := [.data, .pinned], laidTests := true, laidLooks := .later }
def EditAllUptoCardSaid : Prop := Claim7.holds Tryz.pinned (.plain (OpenSpec.upto editAllSpec)) editAllUptoCard

/-- THE SECOND FORM's CARD OF 'glacislaw9.EditMay'. -/
def editMayUptoCard : Claim7 := { stood := { row := editMayUptoRow, standIns := [], harness := (true, "1e44959fcd039b489740f33a6fbd702afdedcf5bee7841eb0e12531b63125b33"), looks := false }, kinds := [], alts := [], laidByText := true, laidKinds := [.data, .pinned], laidTests := true, laidLooks := .later }
def EditMayUptoCardSaid : Prop := Claim7.holds Tryz.pinned (.plain (OpenSpec.upto editMaySpec)) editMayUptoCard

/-- THE SECOND FORM's CARD OF 'glacislaw9.EditMoves'. -/
def editMovesUptoCard : Claim7 := { stood := { row := editMovesUptoRow, standIns := [], harness := (true, "1e44959fcd039b489740f33a6fbd702afdedcf5bee7841eb0e12531b63125b33"), looks := false }, kinds := [], alts := [], laidByText := true, laidKinds := [.data, .pinned], laidTests := true, laidLooks := .later }
def EditMovesUptoCardSaid : Prop := Claim7.holds Tryz.pinned (.plain (OpenSpec.upto editMovesSpec)) editMovesUptoCard

/-- THE SECOND FORM's CARD OF 'glacislaw9.EditForms'. -/
def editFormsUptoCard : Claim7 := { stood := { row := editFormsUptoRow, standIns := [], harness := (true, "1e44959fcd039b489740f33a6fbd702afdedcf5bee7841eb0e12531b63125b33"), looks := false }, kinds := [], alts := [], laidByText := true, laidKinds := [.data, .pinned], laidTests := true, laidLooks := .later }
def EditFormsUptoCardSaid : Prop := Claim7.holds Tryz.pinned (.plain (OpenSpec.upto editFormsSpec)) editFormsUptoCard

/-- THE SECOND FORM's CARD OF 'glacislaw9.EditMakes'. -/
def editMakesUptoCard : Claim7 := { stood := { row := editMakesUptoRow, standIns := [], harness := (true, "1e44959fcd039b489740f33a6fbd702afdedcf5bee7841eb0e12531b63125b33"), looks := false }, kinds := [], alts := [], laidByText := true, laidKinds := [.data, .pinned], laidTests := true, laidLooks := .later }
def EditMakesUptoCardSaid : Prop := Claim7.holds Tryz.pinned (.plain (OpenSpec.upto editMakesSpec)) editMakesUptoCard

/-- THE SECOND FORM's CARD OF 'glacislaw9.EditDrops'. -/
def editDropsUptoCard : Claim7 := { stood := { row := editDropsUptoRow, standIns := [], harness := (true, "1e44959fcd039b489740f33a6fbd702afdedcf5bee7841eb0e12531b63125b33"), looks := false }, kinds := [], alts := [], laidByText := true, laidKinds := [.data, .pinned], laidTests := true, laidLooks := .later }
def EditDropsUptoCardSaid : Prop := Claim7.holds Tryz.pinned (.plain (OpenSpec.upto editDropsSpec)) editDropsUptoCard

/-- THE SECOND FORM's CARD OF 'glacislaw9.EditLinks'. -/
def editLinksUptoCard : Claim7 := { stood := { row := editLinksUptoRow, standIns := [], harness := (true, "1e44959fcd039b489740f33a6fbd702afdedcf5bee7841eb0e12531b63125b33"), looks := false }, kinds := [], alts := [], laidByText := true, laidKinds := [.data, .pinned], laidTests := true, laidLooks := .later }
def EditLinksUptoCardSaid : Prop := Claim7.holds Tryz.pinned (.plain (OpenSpec.upto editLinksSpec)) editLinksUptoCard

/-- THE SECOND FORM's CARD OF 'glacislaw10.BodyAll'. -/
def bodyAllUptoCard : Claim7 := { stood := { row := bodyAllUptoRow, standIns := [], harness := (true, "1e44959fcd039b489740f33a6fbd702afdedcf5bee7841eb0e12531b63125b33"), looks := false }, kinds := [], alts := [], laidByText := true, laidKinds := [.data, .pinned], laidTests := true, laidLooks := .later }
def BodyAllUptoCardSaid : Prop := Claim7.holds Tryz.pinned (.plain (OpenSpec.upto bodyAllSpec)) bodyAllUptoCard

/-- THE SECOND FORM's CARD OF 'glacislaw10.BodyStats'. -/
def bodyStatsUptoCard : Claim7 := { stood := { row := bodyStatsUptoRow, standIns := [], harness := (true, "1e44959fcd039b489740f33a6fbd702afdedcf5bee7841eb0e12531b63125b33"), looks := false }, kinds := [], alts := [], laidByText := true, laidKinds := [.data, .pinned], laidTests := true, laidLooks := .later }
def BodyStatsUptoCardSaid : Prop := Claim7.holds Tryz.pinned (.plain (OpenSpec.upto bodyStatsSpec)) bodyStatsUptoCard
end Rows
end Go.Proofs.YtdnobplhfbgbaaaGreatDoor
