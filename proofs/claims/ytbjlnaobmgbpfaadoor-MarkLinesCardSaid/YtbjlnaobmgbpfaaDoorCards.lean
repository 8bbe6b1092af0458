/-
  DERIVED. GIVEN WITH THE SEED: THE CARDS: each row of YtbjlnaobmgbpfaaDoorRows.lean that lists a variable, with what it lists TIED to the program's text (the seventh form; the later family's looks); each row that meets fmt, with fmt's text TOLD by the authors' own Lean function (tested against real Go, not proved from fmt's source: count such statements apart). THE CARD IS WHAT COUNTS. Prove the row's statement (the work); the ties are given (YtbjlnaobmgbpfaaDoorTie.lean); close each card by the builder's one call (the guide's Derived/Test/ToyasCard.lean, 'card_holds'). Laid BY PROGRAM, IN A SANDBOX (cutbox-door.mjs). By AI agents, Wed Nov 11 2026. No macro, syntax, notation, axiom, sorry.
-/
import Derived.Test.YtbjlnaobmgbpfaaDoorRows
import GoSem.ClaimSeven
namespace Go.Proofs.YtbjlnaobmgbpfaaDoor
namespace Rows

/-- THE TIED CARD OF 'wheelhouselaw20.MarkTells'. -/
def markTellsCard : Claim7 := { stood := { row := markTellsRow, standIns := [], harness := (true, "4e615162d8966102e7dbee146a71bb437e4703c003e616a7b2afa2f4f376ae61"), looks := false }, kinds := [], alts := [], laidByText := true, laidKinds := [.data], laidTests := true, laidLooks := .later }
def MarkTellsCardSaid : Prop := Claim7.holds Tryd.pinned (.plain (OpenSpec.ofChange markTellsSpec)) markTellsCard

/-- THE TIED CARD OF 'wheelhouselaw20.MarkPieces'. -/
def markPiecesCard : Claim7 := { stood := { row := markPiecesRow, standIns := [], harness := (true, "4e615162d8966102e7dbee146a71bb437e4703c003e616a7b2afa2f4f376ae61"), looks := false }, kinds := [], alts := [], laidByText := true, laidKinds := [.data], laidTests := true, laidLooks := .later }
def MarkPiecesCardSaid : Prop := Claim7.holds Tryd.pinned (.plain (OpenSpec.ofChange markPiecesSpec)) markPiecesCard

/-- THE TIED CARD OF 'wheelhouselaw20.MarkLines'. -/
def markLinesCard : Claim7 := { stood := { row := markLinesRow, standIns := [], harness := (true, "4e615162d8966102e7dbee146a71bb437e4703c003e616a7b2afa2f4f376ae61"), looks := false }, kinds := [], alts := [], laidByText := true, laidKinds := [.data], laidTests := true, laidLooks := .later }
def MarkLinesCardSaid : Prop := Claim7.holds Tryd.pinned (.plain (OpenSpec.ofChange markLinesSpec)) markLinesCard

/-- THE SECOND FORM's CARD OF 'wheelhouselaw20.MarkTells'. -/
def markTellsUptoCard : Claim7 := { stood := { row := markTellsUptoRow, standIns := [], harness := (true, "4e615162d8966102e7dbee146a71bb437e4703c003e616a7b2afa2f4f376ae61"), looks := false }, kinds := [], alts := [], laidByText := true, laidKinds := [.data], laidTests := true, laidLooks := .later }
def MarkTellsUptoCardSaid : Prop := Claim7.holds Tryd.pinned (.plain (OpenSpec.upto markTellsSpec)) markTellsUptoCard

/-- THE SECOND FORM's CARD OF 'wheelhouselaw20.MarkPieces'. -/
def markPiecesUptoCard : Claim7 := { stood := { row := markPiecesUptoRow, standIns := [], harness := (true, "4e615162d8966102e7dbee146a71bb437e4703c003e616a7b2afa2f4f376ae61"), looks := false }, kinds := [], alts := [], laidByText := true, laidKinds := [.data], laidTests := true, laidLooks := .later }
def MarkPiecesUptoCardSaid : Prop := Claim7.holds Tryd.pinned (.plain (OpenSpec.upto markPiecesSpec)) markPiecesUptoCard

/-- THE SECOND FORM's CARD OF 'wheelhouselaw20.MarkLines'. -/
def markLinesUptoCard : Claim7 := { stood := { row := markLinesUptoRow, standIns := [], harness := (true, "4e615162d8966102e7dbee146a71bb437e4703c003e616a7b2afa2f4f376ae61"), looks := false }, kinds := [], alts := [], laidByText := true, laidKinds := [.data], laidTests := true, laidLooks := .later }
def MarkLinesUptoCardSaid : Prop := Claim7.holds Tryd.pinned (.plain (OpenSpec.upto markLinesSpec)) markLinesUptoCard
end Rows
end Go.Proofs.YtbjlnaobmgbpfaaDoor
