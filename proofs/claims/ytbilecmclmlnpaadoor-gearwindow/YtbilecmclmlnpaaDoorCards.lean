/-
  DERIVED. GIVEN WITH THE SEED: THE CARDS: each row of YtbilecmclmlnpaaDoorRows.lean that lists a variable, with what it lists TIED to the program's text (the seventh form; the later family's looks); each row that meets fmt, with fmt's text TOLD by the authors' own Lean function (tested against real Go, not proved from fmt's source: count such statements apart). THE CARD IS WHAT COUNTS. Prove the row's statement (the work); the ties are given (YtbilecmclmlnpaaDoorTie.lean); close each card by the builder's one call (the guide's Derived/Test/ToyasCard.lean, 'card_holds'). Laid BY PROGRAM, IN A SANDBOX (cutbox-door.mjs). By AI agents, Wed Nov 11 2026. No macro, syntax, notation, axiom, sorry.
-/
import Derived.Test.YtbilecmclmlnpaaDoorRows
import GoSem.ClaimSeven
namespace Go.Proofs.YtbilecmclmlnpaaDoor
namespace Rows

/-- THE TIED CARD OF 'hayloftlaw04.GearHashes'. -/
def gearHashesCard : Claim7 := { stood := { row := gearHashesRow, standIns := [], harness := (true, "14e7afa3691fc657f2deeece4bf29ddf08ff1b1a0895f1de5eb96cc0a9b6d371"), looks := false }, kinds := [], alts := [], laidByText := true, laidKinds := [.data, .data], laidTests := true, laidLooks := .later }
def GearHashesCardSaid : Prop := Claim7.holds Tryd.pinned (.plain (OpenSpec.ofChange gearHashesSpec)) gearHashesCard

/-- THE TIED CARD OF 'hayloftlaw04.GearEach'. -/
def gearEachCard : Claim7 := { stood := { row := gearEachRow, standIns := [], harness := (true, "14e7afa3691fc657f2deeece4bf29ddf08ff1b1a0895f1de5eb96cc0a9b6d371"), looks := false }, kinds := [], alts := [], laidByText := true, laidKinds := [.data, .data], laidTests := true, laidLooks := .later }
def GearEachCardSaid : Prop := Claim7.holds Tryd.pinned (.plain (OpenSpec.ofChange gearEachSpec)) gearEachCard

/-- THE TIED CARD OF 'hayloftlaw04.GearMasks'. -/
def gearMasksCard : Claim7 := { stood := { row := gearMasksRow, standIns := [], harness := (true, "14e7afa3691fc657f2deeece4bf29ddf08ff1b1a0895f1de5eb96cc0a9b6d371"), looks := false }, kinds := [], alts := [], laidByText := true, laidKinds := [.data, .data], laidTests := true, laidLooks := .later }
def GearMasksCardSaid : Prop := Claim7.holds Tryd.pinned (.plain (OpenSpec.ofChange gearMasksSpec)) gearMasksCard

/-- THE TIED CARD OF 'hayloftlaw04.GearWindow'. -/
def gearWindowCard : Claim7 := { stood := { row := gearWindowRow, standIns := [], harness := (true, "14e7afa3691fc657f2deeece4bf29ddf08ff1b1a0895f1de5eb96cc0a9b6d371"), looks := false }, kinds := [], alts := [], laidByText := true, laidKinds := [.data, .data], laidTests := true, laidLooks := .later }
def GearWindowCardSaid : Prop := Claim7.holds Tryd.pinned (.plain (OpenSpec.ofChange gearWindowSpec)) gearWindowCard

/-- THE TIED CARD OF 'hayloftlaw04.GearFinds'. -/
def gearFindsCard : Claim7 := { stood := { row := gearFindsRow, standIns := [], harness := (true, "14e7afa3691fc657f2deeece4bf29ddf08ff1b1a0895f1de5eb96cc0a9b6d371"), looks := false }, kinds := [], alts := [], laidByText := true, laidKinds := [.data, .data], laidTests := true, laidLooks := .later }
def GearFindsCardSaid : Prop := Claim7.holds Tryd.pinned (.plain (OpenSpec.ofChange gearFindsSpec)) gearFindsCard

/-- THE SECOND FORM's CARD OF 'hayloftlaw04.GearHashes'. -/
def gearHashesUptoCard : Claim7 := { stood := { row := gearHashesUptoRow, standIns := [], harness := (true, "14e7afa3691fc657f2deeece4bf29ddf08ff1b1a0895f1de5eb96cc0a9b6d371"), looks := false }, kinds := [], alts := [], laidByText := true, laidKinds := [.data, .data], laidTests := true, laidLooks := .later }
def GearHashesUptoCardSaid : Prop := Claim7.holds Tryd.pinned (.plain (OpenSpec.upto gearHashesSpec)) gearHashesUptoCard

/-- THE SECOND FORM's CARD OF 'hayloftlaw04.GearEach'. -/
def gearEachUptoCard : Claim7 := { stood := { row := gearEachUptoRow, standIns := [], harness := (true, "14e7afa3691fc657f2deeece4bf29ddf08ff1b1a0895f1de5eb96cc0a9b6d371"), looks := false }, kinds := [], alts := [], laidByText := true, laidKinds := [.data, .data], laidTests := true, laidLooks := .later }
def GearEachUptoCardSaid : Prop := Claim7.holds Tryd.pinned (.plain (OpenSpec.upto gearEachSpec)) gearEachUptoCard

/-- THE SECOND FORM's CARD OF 'hayloftlaw04.GearMasks'. -/
def gearMasksUptoCard : Claim7 := { stood := { row := gearMasksUptoRow, standIns := [], harness := (true, "14e7afa3691fc657f2deeece4bf29ddf08ff1b1a0895f1de5eb96cc0a9b6d371"), looks := false }, kinds := [], alts := [], laidByText := true, laidKinds := [.data, .data], laidTests := true, laidLooks := .later }
def GearMasksUptoCardSaid : Prop := Claim7.holds Tryd.pinned (.plain (OpenSpec.upto gearMasksSpec)) gearMasksUptoCard

/-- THE SECOND FORM's CARD OF 'hayloftlaw04.GearWindow'. -/
def gearWindowUptoCard : Claim7 := { stood := { row := gearWindowUptoRow, standIns := [], harness := (true, "14e7afa3691fc657f2deeece4bf29ddf08ff1b1a0895f1de5eb96cc0a9b6d371"), looks := false }, kinds := [], alts := [], laidByText := true, laidKinds := [.data, .data], laidTests := true, laidLooks := .later }
def GearWindowUptoCardSaid : Prop := Claim7.holds Tryd.pinned (.plain (OpenSpec.upto gearWindowSpec)) gearWindowUptoCard

/-- THE SECOND FORM's CARD OF 'hayloftlaw04.GearFinds'. -/
def gearFindsUptoCard : Claim7 := { stood := { row := gearFindsUptoRow, standIns := [], harness := (true, "14e7afa3691fc657f2deeece4bf29ddf08ff1b1a0895f1de5eb96cc0a9b6d371"), looks := false }, kinds := [], alts := [], laidByText := true, laidKinds := [.data, .data], laidTests := true, laidLooks := .later }
def GearFindsUptoCardSaid : Prop := Claim7.holds Tryd.pinned (.plain (OpenSpec.upto gearFindsSpec)) gearFindsUptoCard
end Rows
end Go.Proofs.YtbilecmclmlnpaaDoor
