/-
  DERIVED. GIVEN WITH THE SEED: THE CARDS: each row of YtinijgkkmfdfiaaDoorRows.lean that lists a variable, with what it lists TIED to the program's text (the seventh form; the later family's looks); each row that meets fmt, with fmt's text TOLD by the authors' own Lean function (tested against real Go, not proved from fmt's source: count such statements apart). THE CARD IS WHAT COUNTS. Prove the row's statement (the work); the ties are given (YtinijgkkmfdfiaaDoorTie.lean); close each card by the builder's one call (the guide's Derived/Test/ToyasCard.lean, 'card_holds'). Laid BY PROGRAM, IN A SANDBOX (cutbox-door.mjs). By AI agents, Wed Nov 11 2026. No macro, syntax, notation, axiom, sorry.
-/
import Derived.Test.YtinijgkkmfdfiaaDoorRows
import GoSem.ClaimSeven
namespace Go.Proofs.YtinijgkkmfdfiaaDoor
namespace Rows

/-- THE TIED CARD OF 'hayloftlaw05.ChunkerCuts'. -/
def chunkerCutsCard : Claim7 := { stood := { row := chunkerCutsRow, standIns := [], harness := (true, "d426dca37eb3761d5d77b8676920087d904605ad42a2bd05a4f80537460febdc"), looks := false }, kinds := [], alts := [], laidByText := true, laidKinds := [.data, .data], laidTests := true, laidLooks := .later }
def ChunkerCutsCardSaid : Prop := Claim7.holds Tryd.pinned (.plain (OpenSpec.ofChange chunkerCutsSpec)) chunkerCutsCard

/-- THE TIED CARD OF 'hayloftlaw05.ChunkerStreams'. -/
def chunkerStreamsCard : Claim7 := { stood := { row := chunkerStreamsRow, standIns := [], harness := (true, "d426dca37eb3761d5d77b8676920087d904605ad42a2bd05a4f80537460febdc"), looks := false }, kinds := [], alts := [], laidByText := true, laidKinds := [.data, .data], laidTests := true, laidLooks := .later }
def ChunkerStreamsCardSaid : Prop := Claim7.holds Tryd.pinned (.plain (OpenSpec.ofChange chunkerStreamsSpec)) chunkerStreamsCard

/-- THE TIED CARD OF 'hayloftlaw05.ChunkerBack'. -/
def chunkerBackCard : Claim7 := { stood := { row := chunkerBackRow, standIns := [], harness := (true, "d426dca37eb3761d5d77b8676920087d904605ad42a2bd05a4f80537460febdc"), looks := false }, kinds := [], alts := [], laidByText := true, laidKinds := [.data, .data], laidTests := true, laidLooks := .later }
def ChunkerBackCardSaid : Prop := Claim7.holds Tryd.pinned (.plain (OpenSpec.ofChange chunkerBackSpec)) chunkerBackCard

/-- THE TIED CARD OF 'hayloftlaw05.ChunkerSync'. -/
def chunkerSyncCard : Claim7 := { stood := { row := chunkerSyncRow, standIns := [], harness := (true, "d426dca37eb3761d5d77b8676920087d904605ad42a2bd05a4f80537460febdc"), looks := false }, kinds := [], alts := [], laidByText := true, laidKinds := [.data, .data], laidTests := true, laidLooks := .later }
def ChunkerSyncCardSaid : Prop := Claim7.holds Tryd.pinned (.plain (OpenSpec.ofChange chunkerSyncSpec)) chunkerSyncCard

/-- THE SECOND FORM's CARD OF 'hayloftlaw05.ChunkerCuts'. -/
def chunkerCutsUptoCard : Claim7 := { stood := { row := chunkerCutsUptoRow, standIns := [], harness := (true, "d426dca37eb3761d5d77b8676920087d904605ad42a2bd05a4f80537460febdc"), looks := false }, kinds := [], alts := [], laidByText := true, laidKinds := [.data, .data], laidTests := true, laidLooks := .later }
def ChunkerCutsUptoCardSaid : Prop := Claim7.holds Tryd.pinned (.plain (OpenSpec.upto chunkerCutsSpec)) chunkerCutsUptoCard

/-- THE SECOND FORM's CARD OF 'hayloftlaw05.ChunkerStreams'. -/
def chunkerStreamsUptoCard : Claim7 := { stood := { row := chunkerStreamsUptoRow, standIns := [], harness := (true, "d426dca37eb3761d5d77b8676920087d904605ad42a2bd05a4f80537460febdc"), looks := false }, kinds := [], alts := [], laidByText := true, laidKinds := [.data, .data], laidTests := true, laidLooks := .later }
def ChunkerStreamsUptoCardSaid : Prop := Claim7.holds Tryd.pinned (.plain (OpenSpec.upto chunkerStreamsSpec)) chunkerStreamsUptoCard

/-- THE SECOND FORM's CARD OF 'hayloftlaw05.ChunkerBack'. -/
def chunkerBackUptoCard : Claim7 := { stood := { row := chunkerBackUptoRow, standIns := [], harness := (true, "d426dca37eb3761d5d77b8676920087d904605ad42a2bd05a4f80537460febdc"), looks := false }, kinds := [], alts := [], laidByText := true, laidKinds := [.data, .data], laidTests := true, laidLooks := .later }
def ChunkerBackUptoCardSaid : Prop := Claim7.holds Tryd.pinned (.plain (OpenSpec.upto chunkerBackSpec)) chunkerBackUptoCard

/-- THE SECOND FORM's CARD OF 'hayloftlaw05.ChunkerSync'. -/
def chunkerSyncUptoCard : Claim7 := { stood := { row := chunkerSyncUptoRow, standIns := [], harness := (true, "d426dca37eb3761d5d77b8676920087d904605ad42a2bd05a4f80537460febdc"), looks := false }, kinds := [], alts := [], laidByText := true, laidKinds := [.data, .data], laidTests := true, laidLooks := .later }
def ChunkerSyncUptoCardSaid : Prop := Claim7.holds Tryd.pinned (.plain (OpenSpec.upto chunkerSyncSpec)) chunkerSyncUptoCard
end Rows
end Go.Proofs.YtinijgkkmfdfiaaDoor
