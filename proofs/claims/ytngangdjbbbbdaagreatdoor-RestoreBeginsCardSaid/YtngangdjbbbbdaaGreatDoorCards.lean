/-
  DERIVED. GIVEN WITH THE SEED: THE CARDS: each row of YtngangdjbbbbdaaGreatDoorRows.lean that lists a variable, with what it lists TIED to the program's text (the seventh form; the later family's looks); each row that meets fmt, with fmt's text TOLD by the authors' own Lean function (tested against real Go, not proved from fmt's source: count such statements apart). THE CARD IS WHAT COUNTS. Prove the row's statement (the work); the ties are given (YtngangdjbbbbdaaGreatDoorTie.lean); close each card by the builder's one call (the guide's Derived/Test/ToyasCard.lean, 'card_holds'). Laid BY PROGRAM, IN A SANDBOX (cutbox-door.mjs). By AI agents, Wed Nov 11 2026. No macro, syntax, notation, axiom, sorry.
-/
import Derived.Test.YtngangdjbbbbdaaGreatDoorRows
import GoSem.ClaimSeven
namespace Go.Proofs.YtngangdjbbbbdaaGreatDoor
namespace Rows

/-- THE TIED CARD OF 'wheelhouselaw23.RestoreBegins'. -/
def restoreBeginsCard : Claim7 := { stood := { row := restoreBeginsRow, standIns := [], harness := (true, "95ce2d8ca731a2a4eb7ec3c997d3c56a5982dadd4e40e51bebef714d00005de4"), looks := true }, kinds := [], alts := [], laidByText := true, laidKinds := [.handle], laidTests := true, laidLooks := .later }
def RestoreBeginsCardSaid : Prop := Claim7.holds Tryz.pinned (.plain (OpenSpec.ofChange restoreBeginsSpec)) restoreBeginsCard

/-- THE SECOND FORM's CARD OF 'wheelhouselaw23.RestoreBegins'. -/
def restoreBeginsUptoCard : Claim7 := { stood := { row := restoreBeginsUptoRow, standIns := [], harness := (true, "95ce2d8ca731a2a4eb7ec3c997d3c56a5982dadd4e40e51bebef714d00005de4"), looks := true }, kinds := [], alts := [], laidByText := true, laidKinds := [.handle], laidTests := true, laidLooks := .later }
def RestoreBeginsUptoCardSaid : Prop := Claim7.holds Tryz.pinned (.plain (OpenSpec.upto restoreBeginsSpec)) restoreBeginsUptoCard
end Rows
end Go.Proofs.YtngangdjbbbbdaaGreatDoor
