/-
  DERIVED. GIVEN WITH THE SEED: THE CARDS: each row of YtkekajmmcjacgaaGreatDoorRows.lean that lists a variable, with what it lists TIED to the program's text (the seventh form; the later family's looks); each row that meets fmt, with fmt's text TOLD by the authors' own Lean function (tested against real Go, not proved from fmt's source: count such statements apart). THE CARD IS WHAT COUNTS. Prove the row's statement (the work); the ties are given (YtkekajmmcjacgaaGreatDoorTie.lean); close each card by the builder's one call (the guide's Derived/Test/ToyasCard.lean, 'card_holds'). Laid BY PROGRAM, IN A SANDBOX (cutbox-door.mjs). By AI agents, Wed Nov 11 2026. No macro, syntax, notation, axiom, sorry.
-/
import Derived.Test.YtkekajmmcjacgaaGreatDoorRows
import GoSem.ClaimSeven
namespace Go.Proofs.YtkekajmmcjacgaaGreatDoor
namespace Rows

/-- THE TIED CARD OF 'hayloftlaw08.PackPlays'. -/
def packPlaysCard : Claim7 := { stood := { row := packPlaysRow, standIns := [], harness := (true, "98fd8f5537367e19ceef78d69d88f51a1c829bd37a5433fe21728b56eaea5ba9"), looks := true }, kinds := [], alts := [], laidByText := true, laidKinds := [.data, .data, .data, .sentinel, .sentinel], laidTests := true, laidLooks := .later }
def PackPlaysCardSaid : Prop := Claim7.holds Tryz.pinned (.plain (OpenSpec.ofChange packPlaysSpec)) packPlaysCard

/-- THE TIED CARD OF 'hayloftlaw08.PackWhole'. -/
def packWholeCard : Claim7 := { stood := { row := packWholeRow, standIns := [], harness := (true, "98fd8f5537367e19ceef78d69d88f51a1c829bd37a5433fe21728b56eaea5ba9"), looks := true }, kinds := [], alts := [], laidByText := true, laidKinds := [.data, .data, .data, .sentinel, .sentinel], laidTests := true, laidLooks := .later }
def PackWholeCardSaid : Prop := Claim7.holds Tryz.pinned (.plain (OpenSpec.ofChange packWholeSpec)) packWholeCard

/-- THE TIED CARD OF 'hayloftlaw08.PackTurned'. -/
def packTurnedCard : Claim7 := { stood := { row := packTurnedRow, standIns := [], harness := (true, "98fd8f5537367e19ceef78d69d88f51a1c829bd37a5433fe21728b56eaea5ba9"), looks := true }, kinds := [], alts := [], laidByText := true, laidKinds := [.data, .data, .data, .sentinel, .sentinel], laidTests := true, laidLooks := .later }
def PackTurnedCardSaid : Prop := Claim7.holds Tryz.pinned (.plain (OpenSpec.ofChange packTurnedSpec)) packTurnedCard

/-- THE TIED CARD OF 'hayloftlaw09.ShelfWalks'. -/
def shelfWalksCard : Claim7 := { stood := { row := shelfWalksRow, standIns := [], harness := (true, "98fd8f5537367e19ceef78d69d88f51a1c829bd37a5433fe21728b56eaea5ba9"), looks := true }, kinds := [], alts := [], laidByText := true, laidKinds := [.data, .data, .data, .sentinel, .sentinel], laidTests := true, laidLooks := .later }
def ShelfWalksCardSaid : Prop := Claim7.holds Tryz.pinned (.plain (OpenSpec.ofChange shelfWalksSpec)) shelfWalksCard

/-- THE TIED CARD OF 'hayloftlaw09.ShelfBack'. -/
def shelfBackCard : Claim7 := { stood := { row := shelfBackRow, standIns := [], harness := (true, "98fd8f5537367e19ceef78d69d88f51a1c829bd37a5433fe21728b56eaea5ba9"), looks := true }, kinds := [], alts := [], laidByText := true, laidKinds := [.data, .data, .data, .sentinel, .sentinel], laidTests := true, laidLooks := .later }
def ShelfBackCardSaid : Prop := Claim7.holds Tryz.pinned (.plain (OpenSpec.ofChange shelfBackSpec)) shelfBackCard

/-- THE TIED CARD OF 'hayloftlaw09.ShelfNils'. -/
def shelfNilsCard : Claim7 := { stood := { row := shelfNilsRow, standIns := [], harness := (true, "98fd8f5537367e19ceef78d69d88f51a1c829bd37a5433fe21728b56eaea5ba9"), looks := true }, kinds := [], alts := [], laidByText := true, laidKinds := [.data, .data, .data, .sentinel, .sentinel], laidTests := true, laidLooks := .later }
def ShelfNilsCardSaid : Prop := Claim7.holds Tryz.pinned (.plain (OpenSpec.ofChange shelfNilsSpec)) shelfNilsCard

/-- THE SECOND FORM's CARD OF 'hayloftlaw08.PackPlays'. -/
def packPlaysUptoCard : Claim7 := { stood := { row := packPlaysUptoRow, standIns := [], harness := (true, "98fd8f5537367e19ceef78d69d88f51a1c829bd37a5433fe21728b56eaea5ba9"), looks := true }, kinds := [], alts := [], laidByText := true, laidKinds := [.data, .data, .data, .sentinel, .sentinel], laidTests := true, laidLooks := .later }
def PackPlaysUptoCardSaid : Prop := Claim7.holds Tryz.pinned (.plain (OpenSpec.upto packPlaysSpec)) packPlaysUptoCard

/-- THE SECOND FORM's CARD OF 'hayloftlaw08.PackWhole'. -/
def packWholeUptoCard : Claim7 := { stood := { row := packWholeUptoRow, standIns := [], harness := (true, "98fd8f5537367e19ceef78d69d88f51a1c829bd37a5433fe21728b56eaea5ba9"), looks := true }, kinds := [], alts := [], laidByText := true, laidKinds := [.data, .data, .data, .sentinel, .sentinel], laidTests := true, laidLooks := .later }
def PackWholeUptoCardSaid : Prop := Claim7.holds Tryz.pinned (.plain (OpenSpec.upto packWholeSpec)) packWholeUptoCard

/-- THE SECOND FORM's CARD OF 'hayloftlaw08.PackTurned'. -/
def packTurnedUptoCard : Claim7 := { stood := { row := packTurnedUptoRow, standIns := [], harness := (true, "98fd8f5537367e19ceef78d69d88f51a1c829bd37a5433fe21728b56eaea5ba9"), looks := true }, kinds := [], alts := [], laidByText := true, laidKinds := [.data, .data, .data, .sentinel, .sentinel], laidTests := true, laidLooks := .later }
def PackTurnedUptoCardSaid : Prop := Claim7.holds Tryz.pinned (.plain (OpenSpec.upto packTurnedSpec)) packTurnedUptoCard

/-- THE SECOND FORM's CARD OF 'hayloftlaw09.ShelfWalks'. -/
def shelfWalksUptoCard : Claim7 := { stood := { row := shelfWalksUptoRow, standIns := [], harness := (true, "98fd8f5537367e19ceef78d69d88f51a1c829bd37a5433fe21728b56eaea5ba9"), looks := true }, kinds := [], alts := [], laidByText := true, laidKinds := [.data, .data, .data, .sentinel, .sentinel], laidTests := true, laidLooks := .later }
def ShelfWalksUptoCardSaid : Prop := Claim7.holds Tryz.pinned (.plain (OpenSpec.upto shelfWalksSpec)) shelfWalksUptoCard

/-- THE SECOND FORM's CARD OF 'hayloftlaw09.ShelfBack'. -/
def shelfBackUptoCard : Claim7 := { stood := { row := shelfBackUptoRow, standIns := [], harness := (true, "98fd8f5537367e19ceef78d69d88f51a1c829bd37a5433fe21728b56eaea5ba9"), looks := true }, kinds := [], alts := [], laidByText := true, laidKinds := [.data, .data, .data, .sentinel, .sentinel], laidTests := true, laidLooks := .later }
def ShelfBackUptoCardSaid : Prop := Claim7.holds Tryz.pinned (.plain (OpenSpec.upto shelfBackSpec)) shelfBackUptoCard

/-- THE SECOND FORM's CARD OF 'hayloftlaw09.ShelfNils'. -/
def shelfNilsUptoCard : Claim7 := { stood := { row := shelfNilsUptoRow, standIns := [], harness := (true, "98fd8f5537367e19ceef78d69d88f51a1c829bd37a5433fe21728b56eaea5ba9"), looks := true }, kinds := [], alts := [], laidByText := true, laidKinds := [.data, .data, .data, .sentinel, .sentinel], laidTests := true, laidLooks := .later }
def ShelfNilsUptoCardSaid : Prop := Claim7.holds Tryz.pinned (.plain (OpenSpec.upto shelfNilsSpec)) shelfNilsUptoCard
end Rows
end Go.Proofs.YtkekajmmcjacgaaGreatDoor
