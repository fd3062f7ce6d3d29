/-
  DERIVED. GIVEN WITH THE SEED: THE CARDS: each row of YtaaioaocjfpajaaGreatDoorRows.lean that lists a variable, with what it lists TIED to the program's text (the seventh form; the later family's looks); each row that meets fmt, with fmt's text TOLD by the authors' own Lean function (tested against real Go, not proved from fmt's source: count such statements apart). THE CARD IS WHAT COUNTS. Prove the row's statement (the work); the ties are given (YtaaioaocjfpajaaGreatDoorTie.lean); close each card by the builder's one call (the guide's Derived/Test/ToyasCard.lean, 'card_holds'). Laid BY PROGRAM, IN A SANDBOX (cutbox-door.mjs). By AI agents, Wed Nov 11 2026. No macro, syntax, notation, axiom, sorry.
-/
import Derived.Test.YtaaioaocjfpajaaGreatDoorRows
import GoSem.ClaimSeven
namespace Go.Proofs.YtaaioaocjfpajaaGreatDoor
namespace Rows

/-- THE TIED CARD OF 'hayloftlaw09.ShelfWalks'. -/
def shelfWalksCard : Claim7 := { stood := { row := shelfWalksRow, standIns := [], harness := (true, "b246f0948103c76a9f6d0caf78f97e8c21fd1c14a8ff32da0d9ea8d3f4786894"), looks := true }, kinds := [], alts := [], laidByText := true, laidKinds := [.data, .data, .data, .sentinel, .sentinel], laidTests := true, laidLooks := .later }
def ShelfWalksCardSaid : Prop := Claim7.holds Tryz.pinned (.plain (OpenSpec.ofChange shelfWalksSpec)) shelfWalksCard

/-- THE TIED CARD OF 'hayloftlaw09.ShelfBack'. -/
def shelfBackCard : Claim7 := { stood := { row := shelfBackRow, standIns := [], harness := (true, "b246f0948103c76a9f6d0caf78f97e8c21fd1c14a8ff32da0d9ea8d3f4786894"), looks := true }, kinds := [], alts := [], laidByText := true, laidKinds := [.data, .data, .data, .sentinel, .sentinel], laidTests := true, laidLooks := .later }
def ShelfBackCardSaid : Prop := Claim7.holds Tryz.pinned (.plain (OpenSpec.ofChange shelfBackSpec)) shelfBackCard

/-- THE SECOND FORM's CARD OF 'hayloftlaw09.ShelfWalks'. -/
def shelfWalksUptoCard : Claim7 := { stood := { row := shelfWalksUptoRow, standIns := [], harness := (true, "b246f0948103c76a9f6d0caf78f97e8c21fd1c14a8ff32da0d9ea8d3f4786894"), looks := true }, kinds := [], alts := [], laidByText := true, laidKinds := [.data, .data, .data, .sentinel, .sentinel], laidTests := true, laidLooks := .later }
def ShelfWalksUptoCardSaid : Prop := Claim7.holds Tryz.pinned (.plain (OpenSpec.upto shelfWalksSpec)) shelfWalksUptoCard

/-- THE SECOND FORM's CARD OF 'hayloftlaw09.ShelfBack'. -/
def shelfBackUptoCard : Claim7 := { stood := { row := shelfBackUptoRow, standIns := [], harness := (true, "b246f0948103c76a9f6d0caf78f97e8c21fd1c14a8ff32da0d9ea8d3f4786894"), looks := true }, kinds := [], alts := [], laidByText := true, laidKinds := [.data, .data, .data, .sentinel, .sentinel], laidTests := true, laidLooks := .later }
def ShelfBackUptoCardSaid : Prop := Claim7.holds Tryz.pinned (.plain (OpenSpec.upto shelfBackSpec)) shelfBackUptoCard
end Rows
end Go.Proofs.YtaaioaocjfpajaaGreatDoor
