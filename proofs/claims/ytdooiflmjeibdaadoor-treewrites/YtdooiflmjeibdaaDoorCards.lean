/-
  DERIVED. GIVEN WITH THE SEED: THE CARDS: each row of YtdooiflmjeibdaaDoorRows.lean that lists a variable, with what it lists TIED to the program's text (the seventh form; the later family's looks); each row that meets fmt, with fmt's text TOLD by the authors' own Lean function (tested against real Go, not proved from fmt's source: count such statements apart). THE CARD IS WHAT COUNTS. Prove the row's statement (the work); the ties are given (YtdooiflmjeibdaaDoorTie.lean); close each card by the builder's one call (the guide's Derived/Test/ToyasCard.lean, 'card_holds'). Laid BY PROGRAM, IN A SANDBOX (cutbox-door.mjs). By AI agents, Wed Nov 11 2026. No macro, syntax, notation, axiom, sorry.
-/
import Derived.Test.YtdooiflmjeibdaaDoorRows
import GoSem.ClaimSeven
namespace Go.Proofs.YtdooiflmjeibdaaDoor
namespace Rows

/-- THE TIED CARD OF 'hayloftlaw13.TreeWrites'. -/
def treeWritesCard : Claim7 := { stood := { row := treeWritesRow, standIns := [], harness := (true, "47de72e89fe12c7d7822f3df42ce34c66c3e6b9be0ed6ed117c5e15acc0fc8b6"), looks := false }, kinds := [], alts := [], laidByText := true, laidKinds := [.data, .pinned], laidTests := true, laidLooks := .later }
def TreeWritesCardSaid : Prop := Claim7.holds Tryd.pinned (.plain (OpenSpec.ofChange treeWritesSpec)) treeWritesCard

/-- THE SECOND FORM's CARD OF 'hayloftlaw13.TreeWrites'. -/
def treeWritesUptoCard : Claim7 := { stood := { row := treeWritesUptoRow, standIns := [], harness := (true, "47de72e89fe12c7d7822f3df42ce34c66c3e6b9be0ed6ed117c5e15acc0fc8b6"), looks := false }, kinds := [], alts := [], laidByText := true, laidKinds := [.data, .pinned], laidTests := true, laidLooks := .later }
def TreeWritesUptoCardSaid : Prop := Claim7.holds Tryd.pinned (.plain (OpenSpec.upto treeWritesSpec)) treeWritesUptoCard
end Rows
end Go.Proofs.YtdooiflmjeibdaaDoor
