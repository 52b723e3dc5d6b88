/-
  DERIVED. GIVEN WITH THE SEED: THE CARDS: each row of YtmcolapcmjdoeaaGreatDoorRows.lean that lists a variable, with what it lists TIED to the program's text (the seventh form; the later family's looks); each row that meets fmt, with fmt's text TOLD by the authors' own Lean function (tested against real Go, not proved from fmt's source: count such statements apart). THE CARD IS WHAT COUNTS. Prove the row's statement (the work); the ties are given (YtmcolapcmjdoeaaGreatDoorTie.lean); close each card by the builder's one call (the guide's Derived/Test/ToyasCard.lean, 'card_holds'). Laid BY PROGRAM, IN A SANDBOX (cutbox-door.mjs). By AI agents, Wed Nov 11 2026. No macro, syntax, notation, axiom, sorry.
-/
import Derived.Test.YtmcolapcmjdoeaaGreatDoorRows
import GoSem.ClaimSeven
namespace Go.Proofs.YtmcolapcmjdoeaaGreatDoor
namespace Rows

/-- THE TIED CARD OF 'librarylaw13.AuthorityFinds'. -/
def authorityFindsCard : Claim7 := { stood := { row := authorityFindsRow, standIns := [], harness := (true, "18a65fad0a41c65e81945928a5c3e23727056d541b89d0ff48d0630d0c4f7e60"), looks := false }, kinds := [], alts := [], laidByText := true, laidKinds := [.data, .data, .pinned], laidTests := true, laidLooks := .later }
def AuthorityFindsCardSaid : Prop := Claim7.holds Tryz.pinned (.plain (OpenSpec.ofChange authorityFindsSpec)) authorityFindsCard

/-- THE TIED CARD OF 'librarylaw13.AuthorityKeeps'. -/
def authorityKeepsCard : Claim7 := { stood := { row := authorityKeepsRow, standIns := [], harness := (true, "18a65fad0a41c65e81945928a5c3e23727056d541b89d0ff48d0630d0c4f7e60"), looks := false }, kinds := [], alts := [], laidByText := true, laidKinds := [.data, .data, .pinned], laidTests := true, laidLooks := .later }
def AuthorityKeepsCardSaid : Prop := Claim7.holds Tryz.pinned (.plain (OpenSpec.ofChange authorityKeepsSpec)) authorityKeepsCard

/-- THE TIED CARD OF 'librarylaw13.AuthorityTurns'. -/
def authorityTurnsCard : Claim7 := { stood := { row := authorityTurnsRow, standIns := [], harness := (true, "18a65fad0a41c65e81945928a5c3e23727056d541b89d0ff48d0630d0c4f7e60"), looks := false }, kinds := [], alts := [], laidByText := true, laidKinds := [.data, .data, .pinned], laidTests := true, laidLooks := .later }
def AuthorityTurnsCardSaid : Prop := Claim7.holds Tryz.pinned (.plain (OpenSpec.ofChange authorityTurnsSpec)) authorityTurnsCard

/-- THE SECOND FORM's CARD OF 'librarylaw13.AuthorityFinds'. -/
def authorityFindsUptoCard : Claim7 := { stood := { row := authorityFindsUptoRow, standIns := [], harness := (true, "18a65fad0a41c65e81945928a5c3e23727056d541b89d0ff48d0630d0c4f7e60"), looks := false }, kinds := [], alts := [], laidByText := true, laidKinds := [.data, .data, .pinned], laidTests := true, laidLooks := .later }
def AuthorityFindsUptoCardSaid : Prop := Claim7.holds Tryz.pinned (.plain (OpenSpec.upto authorityFindsSpec)) authorityFindsUptoCard

/-- THE SECOND FORM's CARD OF 'librarylaw13.AuthorityKeeps'. -/
def authorityKeepsUptoCard : Claim7 := { stood := { row := authorityKeepsUptoRow, standIns := [], harness := (true, "18a65fad0a41c65e81945928a5c3e23727056d541b89d0ff48d0630d0c4f7e60"), looks := false }, kinds := [], alts := [], laidByText := true, laidKinds := [.data, .data, .pinned], laidTests := true, laidLooks := .later }
def AuthorityKeepsUptoCardSaid : Prop := Claim7.holds Tryz.pinned (.plain (OpenSpec.upto authorityKeepsSpec)) authorityKeepsUptoCard

/-- THE SECOND FORM's CARD OF 'librarylaw13.AuthorityTurns'. -/
def authorityTurnsUptoCard : Claim7 := { stood := { row := authorityTurnsUptoRow, standIns := [], harness := (true, "18a65fad0a41c65e81945928a5c3e23727056d541b89d0ff48d0630d0c4f7e60"), looks := false }, kinds := [], alts := [], laidByText := true, laidKinds := [.data, .data, .pinned], laidTests := true, laidLooks := .later }
def AuthorityTurnsUptoCardSaid : Prop := Claim7.holds Tryz.pinned (.plain (OpenSpec.upto authorityTurnsSpec)) authorityTurnsUptoCard
end Rows
end Go.Proofs.YtmcolapcmjdoeaaGreatDoor
