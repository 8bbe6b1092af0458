/-
  DERIVED. GIVEN WITH THE SEED: THE CARDS: each row of YtejhggjehmioaaaDoorRows.lean that lists a variable, with what it lists TIED to the program's text (the seventh form; the later family's looks); each row that meets fmt, with fmt's text TOLD by the authors' own Lean function (tested against real Go, not proved from fmt's source: count such statements apart). THE CARD IS WHAT COUNTS. Prove the row's statement (the work); the ties are given (YtejhggjehmioaaaDoorTie.lean); close each card by the builder's one call (the guide's Derived/Test/ToyasCard.lean, 'card_holds'). Laid BY PROGRAM, IN A SANDBOX (cutbox-door.mjs). By AI agents, Wed Nov 11 2026. No macro, syntax, notation, axiom, sorry.
-/
import Derived.Test.YtejhggjehmioaaaDoorRows
import GoSem.ClaimSeven
namespace Go.Proofs.YtejhggjehmioaaaDoor
namespace Rows

/-- THE TIED CARD OF 'wheelhouselaw11.StorePlays'. -/
def storePlaysCard : Claim7 := { stood := { row := storePlaysRow, standIns := [], harness := (true, "6f4476715061715d1a57869ae0e7db73a2fd8b3aa1d4a8cbad6f83774a25b27c"), looks := true }, kinds := [], alts := [], laidByText := true, laidKinds := [.handle], laidTests := true, laidLooks := .later }
def StorePlaysCardSaid : Prop := Claim7.holds Tryd.pinned (.plain (OpenSpec.ofChange storePlaysSpec)) storePlaysCard

/-- THE TIED CARD OF 'wheelhouselaw11.StoreSure'. -/
def storeSureCard : Claim7 := { stood := { row := storeSureRow, standIns := [], harness := (true, "6f4476715061715d1a57869ae0e7db73a2fd8b3aa1d4a8cbad6f83774a25b27c"), looks := true }, kinds := [], alts := [], laidByText := true, laidKinds := [.handle], laidTests := true, laidLooks := .later }
def StoreSureCardSaid : Prop := Claim7.holds Tryd.pinned (.plain (OpenSpec.ofChange storeSureSpec)) storeSureCard

/-- THE TIED CARD OF 'wheelhouselaw11.StoreFails'. -/
def storeFailsCard : Claim7 := { stood := { row := storeFailsRow, standIns := [], harness := (true, "6f4476715061715d1a57869ae0e7db73a2fd8b3aa1d4a8cbad6f83774a25b27c"), looks := true }, kinds := [], alts := [], laidByText := true, laidKinds := [.handle], laidTests := true, laidLooks := .later }
def StoreFailsCardSaid : Prop := Claim7.holds Tryd.pinned (.plain (OpenSpec.ofChange storeFailsSpec)) storeFailsCard

/-- THE TIED CARD OF 'wheelhouselaw11.StoreNone'. -/
def storeNoneCard : Claim7 := { stood := { row := storeNoneRow, standIns := [], harness := (true, "6f4476715061715d1a57869ae0e7db73a2fd8b3aa1d4a8cbad6f83774a25b27c"), looks := true }, kinds := [], alts := [], laidByText := true, laidKinds := [.handle], laidTests := true, laidLooks := .later }
def StoreNoneCardSaid : Prop := Claim7.holds Tryd.pinned (.plain (OpenSpec.ofChange storeNoneSpec)) storeNoneCard

/-- THE SECOND FORM's CARD OF 'wheelhouselaw11.StorePlays'. -/
def storePlaysUptoCard : Claim7 := { stood := { row := storePlaysUptoRow, standIns := [], harness := (true, "6f4476715061715d1a57869ae0e7db73a2fd8b3aa1d4a8cbad6f83774a25b27c"), looks := true }, kinds := [], alts := [], laidByText := true, laidKinds := [.handle], laidTests := true, laidLooks := .later }
def StorePlaysUptoCardSaid : Prop := Claim7.holds Tryd.pinned (.plain (OpenSpec.upto storePlaysSpec)) storePlaysUptoCard

/-- THE SECOND FORM's CARD OF 'wheelhouselaw11.StoreSure'. -/
def storeSureUptoCard : Claim7 := { stood := { row := storeSureUptoRow, standIns := [], harness := (true, "6f4476715061715d1a57869ae0e7db73a2fd8b3aa1d4a8cbad6f83774a25b27c"), looks := true }, kinds := [], alts := [], laidByText := true, laidKinds := [.handle], laidTests := true, laidLooks := .later }
def StoreSureUptoCardSaid : Prop := Claim7.holds Tryd.pinned (.plain (OpenSpec.upto storeSureSpec)) storeSureUptoCard

/-- THE SECOND FORM's CARD OF 'wheelhouselaw11.StoreFails'. -/
def storeFailsUptoCard : Claim7 := { stood := { row := storeFailsUptoRow, standIns := [], harness := (true, "6f4476715061715d1a57869ae0e7db73a2fd8b3aa1d4a8cbad6f83774a25b27c"), looks := true }, kinds := [], alts := [], laidByText := true, laidKinds := [.handle], laidTests := true, laidLooks := .later }
def StoreFailsUptoCardSaid : Prop := Claim7.holds Tryd.pinned (.plain (OpenSpec.upto storeFailsSpec)) storeFailsUptoCard

/-- THE SECOND FORM's CARD OF 'wheelhouselaw11.StoreNone'. -/
def storeNoneUptoCard : Claim7 := { stood := { row := storeNoneUptoRow, standIns := [], harness := (true, "6f4476715061715d1a57869ae0e7db73a2fd8b3aa1d4a8cbad6f83774a25b27c"), looks := true }, kinds := [], alts := [], laidByText := true, laidKinds := [.handle], laidTests := true, laidLooks := .later }
def StoreNoneUptoCardSaid : Prop := Claim7.holds Tryd.pinned (.plain (OpenSpec.upto storeNoneSpec)) storeNoneUptoCard
end Rows
end Go.Proofs.YtejhggjehmioaaaDoor
