/-
  DERIVED. GIVEN WITH THE SEED: THE CARDS: each row of YtijnijlekidhcaaDoorRows.lean that lists a variable, with what it lists TIED to the program's text (the seventh form; the later family's looks); each row that meets fmt, with fmt's text TOLD by the authors' own Lean function (tested against real Go, not proved from fmt's source: count such statements apart). THE CARD IS WHAT COUNTS. Prove the row's statement (the work); the ties are given (YtijnijlekidhcaaDoorTie.lean); close each card by the builder's one call (the guide's Derived/Test/ToyasCard.lean, 'card_holds'). Laid BY PROGRAM, IN A SANDBOX (cutbox-door.mjs). By AI agents, Wed Nov 11 2026. No macro, syntax, notation, axiom, sorry.
-/
import Derived.Test.YtijnijlekidhcaaDoorRows
import GoSem.ClaimSeven
namespace Go.Proofs.YtijnijlekidhcaaDoor
namespace Rows

/-- THE TIED CARD OF 'wheelhouselaw12.LexReads'. -/
def lexReadsCard : Claim7 := { stood := { row := lexReadsRow, standIns := [], harness := (true, "4b4c49f2a3df5c24b12b655ac6b74bd2ad963c54b2bf738bf448a0cbede5d529"), looks := true }, kinds := [], alts := [], laidByText := true, laidKinds := [.handle], laidTests := true, laidLooks := .later }
def LexReadsCardSaid : Prop := Claim7.holds Tryd.pinned (.plain (OpenSpec.ofChange lexReadsSpec)) lexReadsCard

/-- THE TIED CARD OF 'wheelhouselaw12.LexPuts'. -/
def lexPutsCard : Claim7 := { stood := { row := lexPutsRow, standIns := [], harness := (true, "4b4c49f2a3df5c24b12b655ac6b74bd2ad963c54b2bf738bf448a0cbede5d529"), looks := true }, kinds := [], alts := [], laidByText := true, laidKinds := [.handle], laidTests := true, laidLooks := .later }
def LexPutsCardSaid : Prop := Claim7.holds Tryd.pinned (.plain (OpenSpec.ofChange lexPutsSpec)) lexPutsCard

/-- THE TIED CARD OF 'wheelhouselaw12.LexBack'. -/
def lexBackCard : Claim7 := { stood := { row := lexBackRow, standIns := [], harness := (true, "4b4c49f2a3df5c24b12b655ac6b74bd2ad963c54b2bf738bf448a0cbede5d529"), looks := true }, kinds := [], alts := [], laidByText := true, laidKinds := [.handle], laidTests := true, laidLooks := .later }
def LexBackCardSaid : Prop := Claim7.holds Tryd.pinned (.plain (OpenSpec.ofChange lexBackSpec)) lexBackCard

/-- THE SECOND FORM's CARD OF 'wheelhouselaw12.LexReads'. -/
def lexReadsUptoCard : Claim7 := { stood := { row := lexReadsUptoRow, standIns := [], harness := (true, "4b4c49f2a3df5c24b12b655ac6b74bd2ad963c54b2bf738bf448a0cbede5d529"), looks := true }, kinds := [], alts := [], laidByText := true, laidKinds := [.handle], laidTests := true, laidLooks := .later }
def LexReadsUptoCardSaid : Prop := Claim7.holds Tryd.pinned (.plain (OpenSpec.upto lexReadsSpec)) lexReadsUptoCard

/-- THE SECOND FORM's CARD OF 'wheelhouselaw12.LexPuts'. -/
def lexPutsUptoCard : Claim7 := { stood := { row := lexPutsUptoRow, standIns := [], harness := (true, "4b4c49f2a3df5c24b12b655ac6b74bd2ad963c54b2bf738bf448a0cbede5d529"), looks := true }, kinds := [], alts := [], laidByText := true, laidKinds := [.handle], laidTests := true, laidLooks := .later }
def LexPutsUptoCardSaid : Prop := Claim7.holds Tryd.pinned (.plain (OpenSpec.upto lexPutsSpec)) lexPutsUptoCard

/-- THE SECOND FORM's CARD OF 'wheelhouselaw12.LexBack'. -/
def lexBackUptoCard : Claim7 := { stood := { row := lexBackUptoRow, standIns := [], harness := (true, "4b4c49f2a3df5c24b12b655ac6b74bd2ad963c54b2bf738bf448a0cbede5d529"), looks := true }, kinds := [], alts := [], laidByText := true, laidKinds := [.handle], laidTests := true, laidLooks := .later }
def LexBackUptoCardSaid : Prop := Claim7.holds Tryd.pinned (.plain (OpenSpec.upto lexBackSpec)) lexBackUptoCard
end Rows
end Go.Proofs.YtijnijlekidhcaaDoor
