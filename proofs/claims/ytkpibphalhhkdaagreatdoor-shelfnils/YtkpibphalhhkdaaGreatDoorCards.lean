/-
  DERIVED. GIVEN WITH THE SEED: THE CARDS: each row of YtkpibphalhhkdaaGreatDoorRows.lean that lists a variable, with what it lists TIED to the program's text (the seventh form; the later family's looks); each row that meets fmt, with fmt's text TOLD by the authors' own Lean function (tested against real Go, not proved from fmt's source: count such statements apart). THE CARD IS WHAT COUNTS. Prove the row's statement (the work); the ties are given (YtkpibphalhhkdaaGreatDoorTie.lean); close each card by the builder's one call (the guide's Derived/Test/ToyasCard.lean, 'card_holds'). Laid BY PROGRAM, IN A SANDBOX (cutbox-door.mjs). By AI agents, Wed Nov 11 2026. No macro, syntax, notation, axiom, sorry.
-/
import Derived.Test.YtkpibphalhhkdaaGreatDoorRows
import GoSem.ClaimSeven
namespace Go.Proofs.YtkpibphalhhkdaaGreatDoor
namespace Rows

/-- THE TIED CARD OF 'hayloftlaw09.ShelfNils'. -/
def shelfNilsCard : Claim7 := { stood := { row := shelfNilsRow, standIns := [], harness := (true, "d7e8658ac6ebba1d117b531a4ef2ce12c9e6275887425d11b602a90e7890ac9a"), looks := true }, kinds := [], alts := [], laidByText := true, laidKinds := [.data, .data, .data, .sentinel, .sentinel], laidTests := true, laidLooks := .later }
def ShelfNilsCardSaid : Prop := Claim7.holds Tryz.pinned (.plain (OpenSpec.ofChange shelfNilsSpec)) shelfNilsCard

/-- THE SECOND FORM's CARD OF 'hayloftlaw09.ShelfNils'. -/
def shelfNilsUptoCard : Claim7 := { stood := { row := shelfNilsUptoRow, standIns := [], harness := (true, "d7e8658ac6ebba1d117b531a4ef2ce12c9e6275887425d11b602a90e7890ac9a"), looks := true }, kinds := [], alts := [], laidByText := true, laidKinds := [.data, .data, .data, .sentinel, .sentinel], laidTests := true, laidLooks := .later }
def ShelfNilsUptoCardSaid : Prop := Claim7.holds Tryz.pinned (.plain (OpenSpec.upto shelfNilsSpec)) shelfNilsUptoCard
end Rows
end Go.Proofs.YtkpibphalhhkdaaGreatDoor
