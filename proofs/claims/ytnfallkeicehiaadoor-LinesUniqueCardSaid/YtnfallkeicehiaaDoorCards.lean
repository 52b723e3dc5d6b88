/-
  DERIVED. GIVEN WITH THE SEED: THE CARDS: each row of YtnfallkeicehiaaDoorRows.lean that lists a variable, with what it lists TIED to the program's text (the seventh form; the later family's looks); each row that meets fmt, with fmt's text TOLD by the authors' own Lean function (tested against real Go, not proved from fmt's source: count such statements apart). THE CARD IS WHAT COUNTS. Prove the row's statement (the work); the ties are given (YtnfallkeicehiaaDoorTie.lean); close each card by the builder's one call (the guide's Derived/Test/ToyasCard.lean, 'card_holds'). Laid BY PROGRAM, IN A SANDBOX (cutbox-door.mjs). By AI agents, Wed Nov 11 2026. No macro, syntax, notation, axiom, sorry.
-/
import Derived.Test.YtnfallkeicehiaaDoorRows
import GoSem.ClaimSeven
namespace Go.Proofs.YtnfallkeicehiaaDoor
namespace Rows

/-- THE TIED CARD OF 'librarylaw11.LinesRestores'. -/
def linesRestoresCard : Claim7 := { stood := { row := linesRestoresRow, standIns := [], harness := (true, "d25f815adddbd50821ef7ecb9e0e56b75f75cf22ca9ab41cfcee7acb775825e4"), looks := true }, kinds := [], alts := [], laidByText := true, laidKinds := [.data, .data, .data, .data, .sentinel, .sentinel, .data, .pinned], laidTests := true, laidLooks := .later }
def LinesRestoresCardSaid : Prop := Claim7.holds Tryd.pinned (.plain (OpenSpec.ofChange linesRestoresSpec)) linesRestoresCard

/-- THE TIED CARD OF 'librarylaw11.LinesUnique'. -/
def linesUniqueCard : Claim7 := { stood := { row := linesUniqueRow, standIns := [], harness := (true, "d25f815adddbd50821ef7ecb9e0e56b75f75cf22ca9ab41cfcee7acb775825e4"), looks := true }, kinds := [], alts := [], laidByText := true, laidKinds := [.data, .data, .data, .data, .sentinel, .sentinel, .data, .pinned], laidTests := true, laidLooks := .later }
def LinesUniqueCardSaid : Prop := Claim7.holds Tryd.pinned (.plain (OpenSpec.ofChange linesUniqueSpec)) linesUniqueCard

/-- THE TIED CARD OF 'librarylaw11.LinesJoins'. -/
def linesJoinsCard : Claim7 := { stood := { row := linesJoinsRow, standIns := [], harness := (true, "d25f815adddbd50821ef7ecb9e0e56b75f75cf22ca9ab41cfcee7acb775825e4"), looks := true }, kinds := [], alts := [], laidByText := true, laidKinds := [.data, .data, .data, .data, .sentinel, .sentinel, .data, .pinned], laidTests := true, laidLooks := .later }
def LinesJoinsCardSaid : Prop := Claim7.holds Tryd.pinned (.plain (OpenSpec.ofChange linesJoinsSpec)) linesJoinsCard

/-- THE SECOND FORM's CARD OF 'librarylaw11.LinesRestores'. -/
def linesRestoresUptoCard : Claim7 := { stood := { row := linesRestoresUptoRow, standIns := [], harness := (true, "d25f815adddbd50821ef7ecb9e0e56b75f75cf22ca9ab41cfcee7acb775825e4"), looks := true }, kinds := [], alts := [], laidByText := true, laidKinds := [.data, .data, .data, .data, .sentinel, .sentinel, .data, .pinned], laidTests := true, laidLooks := .later }
def LinesRestoresUptoCardSaid : Prop := Claim7.holds Tryd.pinned (.plain (OpenSpec.upto linesRestoresSpec)) linesRestoresUptoCard

/-- THE SECOND FORM's CARD OF 'librarylaw11.LinesUnique'. -/
def linesUniqueUptoCard : Claim7 := { stood := { row := linesUniqueUptoRow, standIns := [], harness := (true, "d25f815adddbd50821ef7ecb9e0e56b75f75cf22ca9ab41cfcee7acb775825e4"), looks := true }, kinds := [], alts := [], laidByText := true, laidKinds := [.data, .data, .data, .data, .sentinel, .sentinel, .data, .pinned], laidTests := true, laidLooks := .later }
def LinesUniqueUptoCardSaid : Prop := Claim7.holds Tryd.pinned (.plain (OpenSpec.upto linesUniqueSpec)) linesUniqueUptoCard

/-- THE SECOND FORM's CARD OF 'librarylaw11.LinesJoins'. -/
def linesJoinsUptoCard : Claim7 := { stood := { row := linesJoinsUptoRow, standIns := [], harness := (true, "d25f815adddbd50821ef7ecb9e0e56b75f75cf22ca9ab41cfcee7acb775825e4"), looks := true }, kinds := [], alts := [], laidByText := true, laidKinds := [.data, .data, .data, .data, .sentinel, .sentinel, .data, .pinned], laidTests := true, laidLooks := .later }
def LinesJoinsUptoCardSaid : Prop := Claim7.holds Tryd.pinned (.plain (OpenSpec.upto linesJoinsSpec)) linesJoinsUptoCard
end Rows
end Go.Proofs.YtnfallkeicehiaaDoor
