/-
  DERIVED. GIVEN WITH THE SEED: THE CARDS: each row of YtememmgnhnldaaaDoorRows.lean that lists a variable, with what it lists TIED to the program's text (the seventh form; the later family's looks); each row that meets fmt, with fmt's text TOLD by the authors' own Lean function (tested against real Go, not proved from fmt's source: count such statements apart). THE CARD IS WHAT COUNTS. Prove the row's statement (the work); the ties are given (YtememmgnhnldaaaDoorTie.lean); close each card by the builder's one call (the guide's Derived/Test/ToyasCard.lean, 'card_holds'). Laid BY PROGRAM, IN A SANDBOX (cutbox-door.mjs). By AI agents, Wed Nov 11 2026. No macro, syntax, notation, axiom, sorry.
-/
import Derived.Test.YtememmgnhnldaaaDoorRows
import GoSem.ClaimSeven
namespace Go.Proofs.YtememmgnhnldaaaDoor
namespace Rows

/-- THE TIED CARD OF 'wheelhouselaw21.GensKeeps'. -/
def gensKeepsCard : Claim7 := { stood := { row := gensKeepsRow, standIns := [], harness := (true, "a77cbf134a04988d7d4d2ed4457708b473c2bc5f50c67b1d6991eda8afb16231"), looks := true }, kinds := [], alts := [], laidByText := true, laidKinds := [.handle], laidTests := true, laidLooks := .later }
def GensKeepsCardSaid : Prop := Claim7.holds Tryd.pinned (.plain (OpenSpec.ofChange gensKeepsSpec)) gensKeepsCard

/-- THE TIED CARD OF 'wheelhouselaw21.GensNames'. -/
def gensNamesCard : Claim7 := { stood := { row := gensNamesRow, standIns := [], harness := (true, "a77cbf134a04988d7d4d2ed4457708b473c2bc5f50c67b1d6991eda8afb16231"), looks := true }, kinds := [], alts := [], laidByText := true, laidKinds := [.handle], laidTests := true, laidLooks := .later }
def GensNamesCardSaid : Prop := Claim7.holds Tryd.pinned (.plain (OpenSpec.ofChange gensNamesSpec)) gensNamesCard

/-- THE SECOND FORM's CARD OF 'wheelhouselaw21.GensKeeps'. -/
def gensKeepsUptoCard : Claim7 := { stood := { row := gensKeepsUptoRow, standIns := [], harness := (true, "a77cbf134a04988d7d4d2ed4457708b473c2bc5f50c67b1d6991eda8afb16231"), looks := true }, kinds := [], alts := [], laidByText := true, laidKinds := [.handle], laidTests := true, laidLooks := .later }
def GensKeepsUptoCardSaid : Prop := Claim7.holds Tryd.pinned (.plain (OpenSpec.upto gensKeepsSpec)) gensKeepsUptoCard

/-- THE SECOND FORM's CARD OF 'wheelhouselaw21.GensNames'. -/
def gensNamesUptoCard : Claim7 := { stood := { row := gensNamesUptoRow, standIns := [], harness := (true, "a77cbf134a04988d7d4d2ed4457708b473c2bc5f50c67b1d6991eda8afb16231"), looks := true }, kinds := [], alts := [], laidByText := true, laidKinds := [.handle], laidTests := true, laidLooks := .later }
def GensNamesUptoCardSaid : Prop := Claim7.holds Tryd.pinned (.plain (OpenSpec.upto gensNamesSpec)) gensNamesUptoCard
end Rows
end Go.Proofs.YtememmgnhnldaaaDoor
