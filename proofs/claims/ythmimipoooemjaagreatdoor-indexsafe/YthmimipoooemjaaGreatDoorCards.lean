/-
  DERIVED. GIVEN WITH THE SEED: THE CARDS: each row of YthmimipoooemjaaGreatDoorRows.lean that lists a variable, with what it lists TIED to the program's text (the seventh form; the later family's looks); each row that meets fmt, with fmt's text TOLD by the authors' own Lean function (tested against real Go, not proved from fmt's source: count such statements apart). THE CARD IS WHAT COUNTS. Prove the row's statement (the work); the ties are given (YthmimipoooemjaaGreatDoorTie.lean); close each card by the builder's one call (the guide's Derived/Test/ToyasCard.lean, 'card_holds'). Laid BY PROGRAM, IN A SANDBOX (cutbox-door.mjs). By AI agents, Wed Nov 11 2026. No macro, syntax, notation, axiom, sorry.
-/
import Derived.Test.YthmimipoooemjaaGreatDoorRows
import GoSem.ClaimSeven
namespace Go.Proofs.YthmimipoooemjaaGreatDoor
namespace Rows

/-- THE TIED CARD OF 'hayloftlaw09.ShelfWalks'. -/
def shelfWalksCard : Claim7 := { stood := { row := shelfWalksRow, standIns := [], harness := (true, "92777e6e89fdca828a77ebb2a7139cf97aee6ebb186c61962343fed2eddb9abb"), looks := true }, kinds := [], alts := [], laidByText := true, laidKinds := [.data, .data, .data, .sentinel, .sentinel], laidTests := true, laidLooks := .later }
def ShelfWalksCardSaid : Prop := Claim7.holds Tryz.pinned (.plain (OpenSpec.ofChange shelfWalksSpec)) shelfWalksCard

/-- THE TIED CARD OF 'hayloftlaw09.ShelfBack'. -/
def shelfBackCard : Claim7 := { stood := { row := shelfBackRow, standIns := [], harness := (true, "92777e6e89fdca828a77ebb2a7139cf97aee6ebb186c61962343fed2eddb9abb"), looks := true }, kinds := [], alts := [], laidByText := true, laidKinds := [.data, .data, .data, .sentinel, .sentinel], laidTests := true, laidLooks := .later }
def ShelfBackCardSaid : Prop := Claim7.holds Tryz.pinned (.plain (OpenSpec.ofChange shelfBackSpec)) shelfBackCard

/-- THE TIED CARD OF 'hayloftlaw09.ShelfNils'. -/
def shelfNilsCard : Claim7 := { stood := { row := shelfNilsRow, standIns := [], harness := (true, "92777e6e89fdca828a77ebb2a7139cf97aee6ebb186c61962343fed2eddb9abb"), looks := true }, kinds := [], alts := [], laidByText := true, laidKinds := [.data, .data, .data, .sentinel, .sentinel], laidTests := true, laidLooks := .later }
def ShelfNilsCardSaid : Prop := Claim7.holds Tryz.pinned (.plain (OpenSpec.ofChange shelfNilsSpec)) shelfNilsCard

/-- THE TIED CARD OF 'hayloftlaw11.IndexSafe'. -/
def indexSafeCard : Claim7 := { stood := { row := indexSafeRow, standIns := [], harness := (true, "92777e6e89fdca828a77ebb2a7139cf97aee6ebb186c61962343fed2eddb9abb"), looks := true }, kinds := [], alts := [], laidByText := true, laidKinds := [.data, .data, .data, .sentinel, .sentinel], laidTests := true, laidLooks := .later }
def IndexSafeCardSaid : Prop := Claim7.holds Tryz.pinned (.plain (OpenSpec.ofChange indexSafeSpec)) indexSafeCard

/-- THE TIED CARD OF 'hayloftlaw11.IndexHeals'. -/
def indexHealsCard : Claim7 := { stood := { row := indexHealsRow, standIns := [], harness := (true, "92777e6e89fdca828a77ebb2a7139cf97aee6ebb186c61962343fed2eddb9abb"), looks := true }, kinds := [], alts := [], laidByText := true, laidKinds := [.data, .data, .data, .sentinel, .sentinel], laidTests := true, laidLooks := .later }
def IndexHealsCardSaid : Prop := Claim7.holds Tryz.pinned (.plain (OpenSpec.ofChange indexHealsSpec)) indexHealsCard

/-- THE TIED CARD OF 'hayloftlaw11.IndexNils'. -/
def indexNilsCard : Claim7 := { stood := { row := indexNilsRow, standIns := [], harness := (true, "92777e6e89fdca828a77ebb2a7139cf97aee6ebb186c61962343fed2eddb9abb"), looks := true }, kinds := [], alts := [], laidByText := true, laidKinds := [.data, .data, .data, .sentinel, .sentinel], laidTests := true, laidLooks := .later }
def IndexNilsCardSaid : Prop := Claim7.holds Tryz.pinned (.plain (OpenSpec.ofChange indexNilsSpec)) indexNilsCard

/-- THE SECOND FORM's CARD OF 'hayloftlaw09.ShelfWalks'. -/
def shelfWalksUptoCard : Claim7 := { stood := { row := shelfWalksUptoRow, standIns := [], harness := (true, "92777e6e89fdca828a77ebb2a7139cf97aee6ebb186c61962343fed2eddb9abb"), looks := true }, kinds := [], alts := [], laidByText := true, laidKinds := [.data, .data, .data, .sentinel, .sentinel], laidTests := true, laidLooks := .later }
def ShelfWalksUptoCardSaid : Prop := Claim7.holds Tryz.pinned (.plain (OpenSpec.upto shelfWalksSpec)) shelfWalksUptoCard

/-- THE SECOND FORM's CARD OF 'hayloftlaw09.ShelfBack'. -/
def shelfBackUptoCard : Claim7 := { stood := { row := shelfBackUptoRow, standIns := [], harness := (true, "92777e6e89fdca828a77ebb2a7139cf97aee6ebb186c61962343fed2eddb9abb"), looks := true }, kinds := [], alts := [], laidByText := true, laidKinds := [.data, .data, .data, .sentinel, .sentinel], laidTests := true, laidLooks := .later }
def ShelfBackUptoCardSaid : Prop := Claim7.holds Tryz.pinned (.plain (OpenSpec.upto shelfBackSpec)) shelfBackUptoCard

/-- THE SECOND FORM's CARD OF 'hayloftlaw09.ShelfNils'. -/
def shelfNilsUptoCard : Claim7 := { stood := { row := shelfNilsUptoRow, standIns := [], harness := (true, "92777e6e89fdca828a77ebb2a7139cf97aee6ebb186c61962343fed2eddb9abb"), looks := true }, kinds := [], alts := [], laidByText := true, laidKinds := [.data, .data, .data, .sentinel, .sentinel], laidTests := true, laidLooks := .later }
def ShelfNilsUptoCardSaid : Prop := Claim7.holds Tryz.pinned (.plain (OpenSpec.upto shelfNilsSpec)) shelfNilsUptoCard

/-- THE SECOND FORM's CARD OF 'hayloftlaw11.IndexSafe'. -/
def indexSafeUptoCard : Claim7 := { stood := { row := indexSafeUptoRow, standIns := [], harness := (true, "92777e6e89fdca828a77ebb2a7139cf97aee6ebb186c61962343fed2eddb9abb"), looks := true }, kinds := [], alts := [], laidByText := true, laidKinds := [.data, .data, .data, .sentinel, .sentinel], laidTests := true, laidLooks := .later }
def IndexSafeUptoCardSaid : Prop := Claim7.holds Tryz.pinned (.plain (OpenSpec.upto indexSafeSpec)) indexSafeUptoCard

/-- THE SECOND FORM's CARD OF 'hayloftlaw11.IndexHeals'. -/
def indexHealsUptoCard : Claim7 := { stood := { row := indexHealsUptoRow, standIns := [], harness := (true, "92777e6e89fdca828a77ebb2a7139cf97aee6ebb186c61962343fed2eddb9abb"), looks := true }, kinds := [], alts := [], laidByText := true, laidKinds := [.data, .data, .data, .sentinel, .sentinel], laidTests := true, laidLooks := .later }
def IndexHealsUptoCardSaid : Prop := Claim7.holds Tryz.pinned (.plain (OpenSpec.upto indexHealsSpec)) indexHealsUptoCard

/-- THE SECOND FORM's CARD OF 'hayloftlaw11.IndexNils'. -/
def indexNilsUptoCard : Claim7 := { stood := { row := indexNilsUptoRow, standIns := [], harness := (true, "92777e6e89fdca828a77ebb2a7139cf97aee6ebb186c61962343fed2eddb9abb"), looks := true }, kinds := [], alts := [], laidByText := true, laidKinds := [.data, .data, .data, .sentinel, .sentinel], laidTests := true, laidLooks := .later }
def IndexNilsUptoCardSaid : Prop := Claim7.holds Tryz.pinned (.plain (OpenSpec.upto indexNilsSpec)) indexNilsUptoCard
end Rows
end Go.Proofs.YthmimipoooemjaaGreatDoor
