/-
  DERIVED. GIVEN WITH THE SEED: THE CARDS: each row of YtnfallkeicehiaaGreatDoorRows.lean that lists a variable, with what it lists TIED to the program's text (the seventh form; the later family's looks); each row that meets fmt, with fmt's text TOLD by the authors' own Lean function (tested against real Go, not proved from fmt's source: count such statements apart). THE CARD IS WHAT COUNTS. Prove the row's statement (the work); the ties are given (YtnfallkeicehiaaGreatDoorTie.lean); close each card by the builder's one call (the guide's Derived/Test/ToyasCard.lean, 'card_holds'). Laid BY PROGRAM, IN A SANDBOX (cutbox-door.mjs). By AI agents, Wed Nov 11 2026. No macro, syntax, notation, axiom, sorry.
-/
import Derived.Test.YtnfallkeicehiaaGreatDoorRows
import GoSem.ClaimSeven
namespace Go.Proofs.YtnfallkeicehiaaGreatDoor
namespace Rows

/-- THE TIED CARD OF 'librarylaw11.LinesPrints'. -/
def linesPrintsCard : Claim7 := { stood := { row := linesPrintsRow, standIns := [], harness := (true, "ac19848e04af0511d00bf8bd1a46649f8d2d7afaac5221e4c45e2cda919f8278"), looks := true }, kinds := [], alts := [], laidByText := true, laidKinds := [.data, .data, .data, .data, .sentinel, .sentinel, .data, .pinned], laidTests := true, laidLooks := .later }
def LinesPrintsCardSaid : Prop := Claim7.holds Tryz.pinned (.plain (OpenSpec.ofChange linesPrintsSpec)) linesPrintsCard

/-- THE TIED CARD OF 'librarylaw11.LinesParses'. -/
def linesParsesCard : Claim7 := { stood := { row := linesParsesRow, standIns := [], harness := (true, "ac19848e04af0511d00bf8bd1a46649f8d2d7afaac5221e4c45e2cda919f8278"), looks := true }, kinds := [], alts := [], laidByText := true, laidKinds := [.data, .data, .data, .data, .sentinel, .sentinel, .data, .pinned], laidTests := true, laidLooks := .later }
def LinesParsesCardSaid : Prop := Claim7.holds Tryz.pinned (.plain (OpenSpec.ofChange linesParsesSpec)) linesParsesCard

/-- THE TIED CARD OF 'librarylaw11.LinesPrintAlls'. -/
def linesPrintAllsCard : Claim7 := { stood := { row := linesPrintAllsRow, standIns := [], harness := (true, "ac19848e04af0511d00bf8bd1a46649f8d2d7afaac5221e4c45e2cda919f8278"), looks := true }, kinds := [], alts := [], laidByText := true, laidKinds := [.data, .data, .data, .data, .sentinel, .sentinel, .data, .pinned], laidTests := true, laidLooks := .later }
def LinesPrintAllsCardSaid : Prop := Claim7.holds Tryz.pinned (.plain (OpenSpec.ofChange linesPrintAllsSpec)) linesPrintAllsCard

/-- THE TIED CARD OF 'librarylaw11.LinesParseAlls'. -/
def linesParseAllsCard : Claim7 := { stood := { row := linesParseAllsRow, standIns := [], harness := (true, "ac19848e04af0511d00bf8bd1a46649f8d2d7afaac5221e4c45e2cda919f8278"), looks := true }, kinds := [], alts := [], laidByText := true, laidKinds := [.data, .data, .data, .data, .sentinel, .sentinel, .data, .pinned], laidTests := true, laidLooks := .later }
def LinesParseAllsCardSaid : Prop := Claim7.holds Tryz.pinned (.plain (OpenSpec.ofChange linesParseAllsSpec)) linesParseAllsCard

/-- THE SECOND FORM's CARD OF 'librarylaw11.LinesPrints'. -/
def linesPrintsUptoCard : Claim7 := { stood := { row := linesPrintsUptoRow, standIns := [], harness := (true, "ac19848e04af0511d00bf8bd1a46649f8d2d7afaac5221e4c45e2cda919f8278"), looks := true }, kinds := [], alts := [], laidByText := true, laidKinds := [.data, .data, .data, .data, .sentinel, .sentinel, .data, .pinned], laidTests := true, laidLooks := .later }
def LinesPrintsUptoCardSaid : Prop := Claim7.holds Tryz.pinned (.plain (OpenSpec.upto linesPrintsSpec)) linesPrintsUptoCard

/-- THE SECOND FORM's CARD OF 'librarylaw11.LinesParses'. -/
def linesParsesUptoCard : Claim7 := { stood := { row := linesParsesUptoRow, standIns := [], harness := (true, "ac19848e04af0511d00bf8bd1a46649f8d2d7afaac5221e4c45e2cda919f8278"), looks := true }, kinds := [], alts := [], laidByText := true, laidKinds := [.data, .data, .data, .data, .sentinel, .sentinel, .data, .pinned], laidTests := true, laidLooks := .later }
def LinesParsesUptoCardSaid : Prop := Claim7.holds Tryz.pinned (.plain (OpenSpec.upto linesParsesSpec)) linesParsesUptoCard

/-- THE SECOND FORM's CARD OF 'librarylaw11.LinesPrintAlls'. -/
def linesPrintAllsUptoCard : Claim7 := { stood := { row := linesPrintAllsUptoRow, standIns := [], harness := (true, "ac19848e04af0511d00bf8bd1a46649f8d2d7afaac5221e4c45e2cda919f8278"), looks := true }, kinds := [], alts := [], laidByText := true, laidKinds := [.data, .data, .data, .data, .sentinel, .sentinel, .data, .pinned], laidTests := true, laidLooks := .later }
def LinesPrintAllsUptoCardSaid : Prop := Claim7.holds Tryz.pinned (.plain (OpenSpec.upto linesPrintAllsSpec)) linesPrintAllsUptoCard

/-- THE SECOND FORM's CARD OF 'librarylaw11.LinesParseAlls'. -/
def linesParseAllsUptoCard : Claim7 := { stood := { row := linesParseAllsUptoRow, standIns := [], harness := (true, "ac19848e04af0511d00bf8bd1a46649f8d2d7afaac5221e4c45e2cda919f8278"), looks := true }, kinds := [], alts := [], laidByText := true, laidKinds := [.data, .data, .data, .data, .sentinel, .sentinel, .data, .pinned], laidTests := true, laidLooks := .later }
def LinesParseAllsUptoCardSaid : Prop := Claim7.holds Tryz.pinned (.plain (OpenSpec.upto linesParseAllsSpec)) linesParseAllsUptoCard
end Rows
end Go.Proofs.YtnfallkeicehiaaGreatDoor
