/-
  DERIVED. GIVEN WITH THE SEED: THE CARDS: each row of YtoablohigdkbkaaDoorRows.lean that lists a variable, with what it lists TIED to the program's text (the seventh form; the later family's looks); each row that meets fmt, with fmt's text TOLD by the authors' own Lean function (tested against real Go, not proved from fmt's source: count such statements apart). THE CARD IS WHAT COUNTS. Prove the row's statement (the work); the ties are given (YtoablohigdkbkaaDoorTie.lean); close each card by the builder's one call (the guide's Derived/Test/ToyasCard.lean, 'card_holds'). Laid BY PROGRAM, IN A SANDBOX (cutbox-door.mjs). By AI agents, Wed Nov 11 2026. No macro, syntax, notation, axiom, sorry.
-/
import Derived.Test.YtoablohigdkbkaaDoorRows
import GoSem.ClaimSeven
namespace Go.Proofs.YtoablohigdkbkaaDoor
namespace Rows

/-- THE TIED CARD OF 'glacislaw2.CrcAll'. -/
def crcAllCard : Claim7 := { stood := { row := crcAllRow, standIns := [], harness := (true, "9e4ad9c3c791406eb8ad11472164e29b5f89cdd0845dd51998de02fd147532e7"), looks := false }, kinds := [], alts := [], laidByText := true, laidKinds := [.data], laidTests := true, laidLooks := .later }
def CrcAllCardSaid : Prop := Claim7.holds Tryd.pinned (.plain (OpenSpec.ofChange crcAllSpec)) crcAllCard

/-- THE TIED CARD OF 'glacislaw2.CrcTurned'. -/
def crcTurnedCard : Claim7 := { stood := { row := crcTurnedRow, standIns := [], harness := (true, "9e4ad9c3c791406eb8ad11472164e29b5f89cdd0845dd51998de02fd147532e7"), looks := false }, kinds := [], alts := [], laidByText := true, laidKinds := [.data], laidTests := true, laidLooks := .later }
def CrcTurnedCardSaid : Prop := Claim7.holds Tryd.pinned (.plain (OpenSpec.ofChange crcTurnedSpec)) crcTurnedCard

/-- THE TIED CARD OF 'glacislaw2.CrcJoin'. -/
def crcJoinCard : Claim7 := { stood := { row := crcJoinRow, standIns := [], harness := (true, "9e4ad9c3c791406eb8ad11472164e29b5f89cdd0845dd51998de02fd147532e7"), looks := false }, kinds := [], alts := [], laidByText := true, laidKinds := [.data], laidTests := true, laidLooks := .later }
def CrcJoinCardSaid : Prop := Claim7.holds Tryd.pinned (.plain (OpenSpec.ofChange crcJoinSpec)) crcJoinCard

/-- THE TIED CARD OF 'glacislaw2.CrcForms'. -/
def crcFormsCard : Claim7 := { stood := { row := crcFormsRow, standIns := [], harness := (true, "9e4ad9c3c791406eb8ad11472164e29b5f89cdd0845dd51998de02fd147532e7"), looks := false }, kinds := [], alts := [], laidByText := true, laidKinds := [.data], laidTests := true, laidLooks := .later }
def CrcFormsCardSaid : Prop := Claim7.holds Tryd.pinned (.plain (OpenSpec.ofChange crcFormsSpec)) crcFormsCard

/-- THE TIED CARD OF 'glacislaw2.CrcPieces'. -/
def crcPiecesCard : Claim7 := { stood := { row := crcPiecesRow, standIns := [], harness := (true, "9e4ad9c3c791406eb8ad11472164e29b5f89cdd0845dd51998de02fd147532e7"), looks := false }, kinds := [], alts := [], laidByText := true, laidKinds := [.data], laidTests := true, laidLooks := .later }
def CrcPiecesCardSaid : Prop := Claim7.holds Tryd.pinned (.plain (OpenSpec.ofChange crcPiecesSpec)) crcPiecesCard

/-- THE SECOND FORM's CARD OF 'glacislaw2.CrcAll'. -/
def crcAllUptoCard : Claim7 := { stood := { row := crcAllUptoRow, standIns := [], harness := (true, "9e4ad9c3c791406eb8ad11472164e29b5f89cdd0845dd51998de02fd147532e7"), looks := false }, kinds := [], alts := [], laidByText := true, laidKinds := [.data], laidTests := true, laidLooks := .later }
def CrcAllUptoCardSaid : Prop := Claim7.holds Tryd.pinned (.plain (OpenSpec.upto crcAllSpec)) crcAllUptoCard

/-- THE SECOND FORM's CARD OF 'glacislaw2.CrcTurned'. -/
def crcTurnedUptoCard : Claim7 := { stood := { row := crcTurnedUptoRow, standIns := [], harness := (true, "9e4ad9c3c791406eb8ad11472164e29b5f89cdd0845dd51998de02fd147532e7"), looks := false }, kinds := [], alts := [], laidByText := true, laidKinds := [.data], laidTests := true, laidLooks := .later }
def CrcTurnedUptoCardSaid : Prop := Claim7.holds Tryd.pinned (.plain (OpenSpec.upto crcTurnedSpec)) crcTurnedUptoCard

/-- THE SECOND FORM's CARD OF 'glacislaw2.CrcJoin'. -/
def crcJoinUptoCard : Claim7 := { stood := { row := crcJoinUptoRow, standIns := [], harness := (true, "9e4ad9c3c791406eb8ad11472164e29b5f89cdd0845dd51998de02fd147532e7"), looks := false }, kinds := [], alts := [], laidByText := true, laidKinds := [.data], laidTests := true, laidLooks := .later }
def CrcJoinUptoCardSaid : Prop := Claim7.holds Tryd.pinned (.plain (OpenSpec.upto crcJoinSpec)) crcJoinUptoCard

/-- THE SECOND FORM's CARD OF 'glacislaw2.CrcForms'. -/
def crcFormsUptoCard : Claim7 := { stood := { row := crcFormsUptoRow, standIns := [], harness := (true, "9e4ad9c3c791406eb8ad11472164e29b5f89cdd0845dd51998de02fd147532e7"), looks := false }, kinds := [], alts := [], laidByText := true, laidKinds := [.data], laidTests := true, laidLooks := .later }
def CrcFormsUptoCardSaid : Prop := Claim7.holds Tryd.pinned (.plain (OpenSpec.upto crcFormsSpec)) crcFormsUptoCard

/-- THE SECOND FORM's CARD OF 'glacislaw2.CrcPieces'. -/
def crcPiecesUptoCard : Claim7 := { stood := { row := crcPiecesUptoRow, standIns := [], harness := (true, "9e4ad9c3c791406eb8ad11472164e29b5f89cdd0845dd51998de02fd147532e7"), looks := false }, kinds := [], alts := [], laidByText := true, laidKinds := [.data], laidTests := true, laidLooks := .later }
def CrcPiecesUptoCardSaid : Prop := Claim7.holds Tryd.pinned (.plain (OpenSpec.upto crcPiecesSpec)) crcPiecesUptoCard
end Rows
end Go.Proofs.YtoablohigdkbkaaDoor
