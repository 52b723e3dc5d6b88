/-
  DERIVED. GIVEN WITH THE SEED: THE CARDS: each row of YtiledacfdaenbaaGreatDoorRows.lean that lists a variable, with what it lists TIED to the program's text (the seventh form; the later family's looks); each row that meets fmt, with fmt's text TOLD by the authors' own Lean function (tested against real Go, not proved from fmt's source: count such statements apart). THE CARD IS WHAT COUNTS. Prove the row's statement (the work); the ties are given (YtiledacfdaenbaaGreatDoorTie.lean); close each card by the builder's one call (the guide's Derived/Test/ToyasCard.lean, 'card_holds'). Laid BY PROGRAM, IN A SANDBOX (cutbox-door.mjs). By AI agents, Wed Nov 11 2026. No macro, syntax, notation, axiom, sorry.
-/
import Derived.Test.YtiledacfdaenbaaGreatDoorRows
import GoSem.ClaimSeven
namespace Go.Proofs.YtiledacfdaenbaaGreatDoor
namespace Rows

/-- THE TIED CARD OF 'librarylaw10.ExchangeImports'. -/
def exchangeImportsCard : Claim7 := { stood := { row := exchangeImportsRow, standIns := [], harness := (true, "5e2510f2274f80076c120ecc25a7a10a7ad1780725c4410dfc565b85e0cccc3b"), looks := false }, kinds := [], alts := [], laidByText := true, laidKinds := [.data, .data, .data, .data, .pinned], laidTests := true, laidLooks := .later }
def ExchangeImportsCardSaid : Prop := Claim7.holds Tryz.pinned (.plain (OpenSpec.ofChange exchangeImportsSpec)) exchangeImportsCard

/-- THE SECOND FORM's CARD OF 'librarylaw10.ExchangeImports'. -/
def exchangeImportsUptoCard : Claim7 := { stood := { row := exchangeImportsUptoRow, standIns := [], harness := (true, "5e2510f2274f80076c120ecc25a7a10a7ad1780725c4410dfc565b85e0cccc3b"), looks := false }, kinds := [], alts := [], laidByText := true, laidKinds := [.data, .data, .data, .data, .pinned], laidTests := true, laidLooks := .later }
def ExchangeImportsUptoCardSaid : Prop := Claim7.holds Tryz.pinned (.plain (OpenSpec.upto exchangeImportsSpec)) exchangeImportsUptoCard
end Rows
end Go.Proofs.YtiledacfdaenbaaGreatDoor
