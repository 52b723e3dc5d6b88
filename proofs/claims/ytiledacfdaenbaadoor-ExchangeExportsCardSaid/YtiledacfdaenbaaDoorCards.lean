/-
  DERIVED. GIVEN WITH THE SEED: THE CARDS: each row of YtiledacfdaenbaaDoorRows.lean that lists a variable, with what it lists TIED to the program's text (the seventh form; the later family's looks); each row that meets fmt, with fmt's text TOLD by the authors' own Lean function (tested against real Go, not proved from fmt's source: count such statements apart). THE CARD IS WHAT COUNTS. Prove the row's statement (the work); the ties are given (YtiledacfdaenbaaDoorTie.lean); close each card by the builder's one call (the guide's Derived/Test/ToyasCard.lean, 'card_holds'). Laid BY PROGRAM, IN A SANDBOX (cutbox-door.mjs). By AI agents, Wed Nov 11 2026. No macro, syntax, notation, axiom, sorry.
-/
import Derived.Test.YtiledacfdaenbaaDoorRows
import GoSem.ClaimSeven
namespace Go.Proofs.YtiledacfdaenbaaDoor
namespace Rows

/-- THE TIED CARD OF 'librarylaw10.ExchangeEncodes'. -/
def exchangeEncodesCard : Claim7 := { stood := { row := exchangeEncodesRow, standIns := [], harness := (true, "db35ec467044f2a7e58159cdca5bc0672f617cca022244e78ed9cb985abf0a56"), looks := false }, kinds := [], alts := [], laidByText := true, laidKinds := [.data, .data, .data, .data, .pinned], laidTests := true, laidLooks := .later }
def ExchangeEncodesCardSaid : Prop := Claim7.holds Tryd.pinned (.plain (OpenSpec.ofChange exchangeEncodesSpec)) exchangeEncodesCard

/-- THE TIED CARD OF 'librarylaw10.ExchangeDecodes'. -/
def exchangeDecodesCard : Claim7 := { stood := { row := exchangeDecodesRow, standIns := [], harness := (true, "db35ec467044f2a7e58159cdca5bc0672f617cca022244e78ed9cb985abf0a56"), looks := false }, kinds := [], alts := [], laidByText := true, laidKinds := [.data, .data, .data, .data, .pinned], laidTests := true, laidLooks := .later }
def ExchangeDecodesCardSaid : Prop := Claim7.holds Tryd.pinned (.plain (OpenSpec.ofChange exchangeDecodesSpec)) exchangeDecodesCard

/-- THE TIED CARD OF 'librarylaw10.ExchangeExports'. -/
def exchangeExportsCard : Claim7 := { stood := { row := exchangeExportsRow, standIns := [], harness := (true, "db35ec467044f2a7e58159cdca5bc0672f617cca022244e78ed9cb985abf0a56"), looks := false }, kinds := [], alts := [], laidByText := true, laidKinds := [.data, .data, .data, .data, .pinned], laidTests := true, laidLooks := .later }
def ExchangeExportsCardSaid : Prop := Claim7.holds Tryd.pinned (.plain (OpenSpec.ofChange exchangeExportsSpec)) exchangeExportsCard

/-- THE TIED CARD OF 'librarylaw10.ExchangeBack'. -/
def exchangeBackCard : Claim7 := { stood := { row := exchangeBackRow, standIns := [], harness := (true, "db35ec467044f2a7e58159cdca5bc0672f617cca022244e78ed9cb985abf0a56"), looks := false }, kinds := [], alts := [], laidByText := true, laidKinds := [.data, .data, .data, .data, .pinned], laidTests := true, laidLooks := .later }
def ExchangeBackCardSaid : Prop := Claim7.holds Tryd.pinned (.plain (OpenSpec.ofChange exchangeBackSpec)) exchangeBackCard

/-- THE TIED CARD OF 'librarylaw10.ExchangeOne'. -/
def exchangeOneCard : Claim7 := { stood := { row := exchangeOneRow, standIns := [], harness := (true, "db35ec467044f2a7e58159cdca5bc0672f617cca022244e78ed9cb985abf0a56"), looks := false }, kinds := [], alts := [], laidByText := true, laidKinds := [.data, .data, .data, .data, .pinned], laidTests := true, laidLooks := .later }
def ExchangeOneCardSaid : Prop := Claim7.holds Tryd.pinned (.plain (OpenSpec.ofChange exchangeOneSpec)) exchangeOneCard

/-- THE SECOND FORM's CARD OF 'librarylaw10.ExchangeEncodes'. -/
def exchangeEncodesUptoCard : Claim7 := { stood := { row := exchangeEncodesUptoRow, standIns := [], harness := (true, "db35ec467044f2a7e58159cdca5bc0672f617cca022244e78ed9cb985abf0a56"), looks := false }, kinds := [], alts := [], laidByText := true, laidKinds := [.data, .data, .data, .data, .pinned], laidTests := true, laidLooks := .later }
def ExchangeEncodesUptoCardSaid : Prop := Claim7.holds Tryd.pinned (.plain (OpenSpec.upto exchangeEncodesSpec)) exchangeEncodesUptoCard

/-- THE SECOND FORM's CARD OF 'librarylaw10.ExchangeDecodes'. -/
def exchangeDecodesUptoCard : Claim7 := { stood := { row := exchangeDecodesUptoRow, standIns := [], harness := (true, "db35ec467044f2a7e58159cdca5bc0672f617cca022244e78ed9cb985abf0a56"), looks := false }, kinds := [], alts := [], laidByText := true, laidKinds := [.data, .data, .data, .data, .pinned], laidTests := true, laidLooks := .later }
def ExchangeDecodesUptoCardSaid : Prop := Claim7.holds Tryd.pinned (.plain (OpenSpec.upto exchangeDecodesSpec)) exchangeDecodesUptoCard

/-- THE SECOND FORM's CARD OF 'librarylaw10.ExchangeExports'. -/
def exchangeExportsUptoCard : Claim7 := { stood := { row := exchangeExportsUptoRow, standIns := [], harness := (true, "db35ec467044f2a7e58159cdca5bc0672f617cca022244e78ed9cb985abf0a56"), looks := false }, kinds := [], alts := [], laidByText := true, laidKinds := [.data, .data, .data, .data, .pinned], laidTests := true, laidLooks := .later }
def ExchangeExportsUptoCardSaid : Prop := Claim7.holds Tryd.pinned (.plain (OpenSpec.upto exchangeExportsSpec)) exchangeExportsUptoCard

/-- THE SECOND FORM's CARD OF 'librarylaw10.ExchangeBack'. -/
def exchangeBackUptoCard : Claim7 := { stood := { row := exchangeBackUptoRow, standIns := [], harness := (true, "db35ec467044f2a7e58159cdca5bc0672f617cca022244e78ed9cb985abf0a56"), looks := false }, kinds := [], alts := [], laidByText := true, laidKinds := [.data, .data, .data, .data, .pinned], laidTests := true, laidLooks := .later }
def ExchangeBackUptoCardSaid : Prop := Claim7.holds Tryd.pinned (.plain (OpenSpec.upto exchangeBackSpec)) exchangeBackUptoCard

/-- THE SECOND FORM's CARD OF 'librarylaw10.ExchangeOne'. -/
def exchangeOneUptoCard : Claim7 := { stood := { row := exchangeOneUptoRow, standIns := [], harness := (true, "db35ec467044f2a7e58159cdca5bc0672f617cca022244e78ed9cb985abf0a56"), looks := false }, kinds := [], alts := [], laidByText := true, laidKinds := [.data, .data, .data, .data, .pinned], laidTests := true, laidLooks := .later }
def ExchangeOneUptoCardSaid : Prop := Claim7.holds Tryd.pinned (.plain (OpenSpec.upto exchangeOneSpec)) exchangeOneUptoCard
end Rows
end Go.Proofs.YtiledacfdaenbaaDoor
