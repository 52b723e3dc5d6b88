/-
  DERIVED. GIVEN WITH THE SEED: THE CARDS: each row of YthjdopnoophigaaGreatDoorRows.lean that lists a variable, with what it lists TIED to the program's text (the seventh form; the later family's looks); each row that meets fmt, with fmt's text TOLD by the authors' own Lean function (tested against real Go, not proved from fmt's source: count such statements apart). THE CARD IS WHAT COUNTS. Prove the row's statement (the work); the ties are given (YthjdopnoophigaaGreatDoorTie.lean); close each card by the builder's one call (the guide's Derived/Test/ToyasCard.lean, 'card_holds'). Laid BY PROGRAM, IN A SANDBOX (cutbox-door.mjs). By AI agents, Wed Nov 11 2026. No macro, syntax, notation, axiom, sorry.
-/
import Derived.Test.YthjdopnoophigaaGreatDoorRows
import GoSem.ClaimSeven
namespace Go.Proofs.YthjdopnoophigaaGreatDoor
namespace Rows

/-- THE TIED CARD OF 'librarylaw14.ControlPuts'. -/
def controlPutsCard : Claim7 := { stood := { row := controlPutsRow, standIns := [], harness := (true, "543aa50bd4c64fbb90b568022f07cf0c1047fc8a3358f123efd2d3a79e445b69"), looks := false }, kinds := [], alts := [], laidByText := true, laidKinds := [.data, .data, .data, .data, .data, .data, .pinned], laidTests := true, laidLooks := .later }
def ControlPutsCardSaid : Prop := Claim7.holds Tryz.pinned (.plain (OpenSpec.ofChange controlPutsSpec)) controlPutsCard

/-- THE TIED CARD OF 'librarylaw14.ControlLists'. -/
def controlListsCard : Claim7 := { stood := { row := controlListsRow, standIns := [], harness := (true, "543aa50bd4c64fbb90b568022f07cf0c1047fc8a3358f123efd2d3a79e445b69"), looks := false }, kinds := [], alts := [], laidByText := true, laidKinds := [.data, .data, .data, .data, .data, .data, .pinned], laidTests := true, laidLooks := .later }
def ControlListsCardSaid : Prop := Claim7.holds Tryz.pinned (.plain (OpenSpec.ofChange controlListsSpec)) controlListsCard

/-- THE TIED CARD OF 'librarylaw14.ControlTurns'. -/
def controlTurnsCard : Claim7 := { stood := { row := controlTurnsRow, standIns := [], harness := (true, "543aa50bd4c64fbb90b568022f07cf0c1047fc8a3358f123efd2d3a79e445b69"), looks := false }, kinds := [], alts := [], laidByText := true, laidKinds := [.data, .data, .data, .data, .data, .data, .pinned], laidTests := true, laidLooks := .later }
def ControlTurnsCardSaid : Prop := Claim7.holds Tryz.pinned (.plain (OpenSpec.ofChange controlTurnsSpec)) controlTurnsCard

/-- THE TIED CARD OF 'librarylaw14.ControlMoves'. -/
def controlMovesCard : Claim7 := { stood := { row := controlMovesRow, standIns := [], harness := (true, "543aa50bd4c64fbb90b568022f07cf0c1047fc8a3358f123efd2d3a79e445b69"), looks := false }, kinds := [], alts := [], laidByText := true, laidKinds := [.data, .data, .data, .data, .data, .data, .pinned], laidTests := true, laidLooks := .later }
def ControlMovesCardSaid : Prop := Claim7.holds Tryz.pinned (.plain (OpenSpec.ofChange controlMovesSpec)) controlMovesCard

/-- THE SECOND FORM's CARD OF 'librarylaw14.ControlPuts'. -/
def controlPutsUptoCard : Claim7 := { stood := { row := controlPutsUptoRow, standIns := [], harness := (true, "543aa50bd4c64fbb90b568022f07cf0c1047fc8a3358f123efd2d3a79e445b69"), looks := false }, kinds := [], alts := [], laidByText := true, laidKinds := [.data, .data, .data, .data, .data, .data, .pinned], laidTests := true, laidLooks := .later }
def ControlPutsUptoCardSaid : Prop := Claim7.holds Tryz.pinned (.plain (OpenSpec.upto controlPutsSpec)) controlPutsUptoCard

/-- THE SECOND FORM's CARD OF 'librarylaw14.ControlLists'. -/
def controlListsUptoCard : Claim7 := { stood := { row := controlListsUptoRow, standIns := [], harness := (true, "543aa50bd4c64fbb90b568022f07cf0c1047fc8a3358f123efd2d3a79e445b69"), looks := false }, kinds := [], alts := [], laidByText := true, laidKinds := [.data, .data, .data, .data, .data, .data, .pinned], laidTests := true, laidLooks := .later }
def ControlListsUptoCardSaid : Prop := Claim7.holds Tryz.pinned (.plain (OpenSpec.upto controlListsSpec)) controlListsUptoCard

/-- THE SECOND FORM's CARD OF 'librarylaw14.ControlTurns'. -/
def controlTurnsUptoCard : Claim7 := { stood := { row := controlTurnsUptoRow, standIns := [], harness := (true, "543aa50bd4c64fbb90b568022f07cf0c1047fc8a3358f123efd2d3a79e445b69"), looks := false }, kinds := [], alts := [], laidByText := true, laidKinds := [.data, .data, .data, .data, .data, .data, .pinned], laidTests := true, laidLooks := .later }
def ControlTurnsUptoCardSaid : Prop := Claim7.holds Tryz.pinned (.plain (OpenSpec.upto controlTurnsSpec)) controlTurnsUptoCard

/-- THE SECOND FORM's CARD OF 'librarylaw14.ControlMoves'. -/
def controlMovesUptoCard : Claim7 := { stood := { row := controlMovesUptoRow, standIns := [], harness := (true, "543aa50bd4c64fbb90b568022f07cf0c1047fc8a3358f123efd2d3a79e445b69"), looks := false }, kinds := [], alts := [], laidByText := true, laidKinds := [.data, .data, .data, .data, .data, .data, .pinned], laidTests := true, laidLooks := .later }
def ControlMovesUptoCardSaid : Prop := Claim7.holds Tryz.pinned (.plain (OpenSpec.upto controlMovesSpec)) controlMovesUptoCard
end Rows
end Go.Proofs.YthjdopnoophigaaGreatDoor
