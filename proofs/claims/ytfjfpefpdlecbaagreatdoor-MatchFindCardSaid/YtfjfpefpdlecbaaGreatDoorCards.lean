/-
  DERIVED. GIVEN WITH THE SEED: THE CARDS: each row of YtfjfpefpdlecbaaGreatDoorRows.lean that lists a variable, with what it lists TIED to the program's text (the seventh form; the later family's looks); each row that meets fmt, with fmt's text TOLD by the authors' own Lean function (tested against real Go, not proved from fmt's source: count such statements apart). THE CARD IS WHAT COUNTS. Prove the row's statement (the work); the ties are given (YtfjfpefpdlecbaaGreatDoorTie.lean); close each card by the builder's one call (the guide's Derived/Test/ToyasCard.lean, 'card_holds'). Laid BY PROGRAM, IN A SANDBOX (cutbox-door.mjs). By AI agents, Wed Nov 11 2026. No macro, syntax, notation, axiom, sorry.
-/
import Derived.Test.YtfjfpefpdlecbaaGreatDoorRows
import GoSem.ClaimSeven
namespace Go.Proofs.YtfjfpefpdlecbaaGreatDoor
namespace Rows

/-- THE TIED CARD OF 'librarylaw15.MatchRight'. -/
def matchRightCard : Claim7 := { stood := { row := matchRightRow, standIns := [], harness := (true, "9ceccafdae3e48de08b13b54d766fff50650d213ef96e4c4fb3037801ce54ba9"), looks := false }, kinds := [], alts := [], laidByText := true, laidKinds := [.data, .data, .data, .data, .data, .pinned], laidTests := true, laidLooks := .later }
def MatchRightCardSaid : Prop := Claim7.holds Tryz.pinned (.plain (OpenSpec.ofChange matchRightSpec)) matchRightCard

/-- THE TIED CARD OF 'librarylaw15.MatchKeys'. -/
def matchKeysCard : Claim7 := { stood := { row := matchKeysRow, standIns := [], harness := (true, "9ceccafdae3e48de08b13b54d766fff50650d213ef96e4c4fb3037801ce54ba9"), looks := false }, kinds := [], alts := [], laidByText := true, laidKinds := [.data, .data, .data, .data, .data, .pinned], laidTests := true, laidLooks := .later }
def MatchKeysCardSaid : Prop := Claim7.holds Tryz.pinned (.plain (OpenSpec.ofChange matchKeysSpec)) matchKeysCard

/-- THE TIED CARD OF 'librarylaw15.MatchScore'. -/
def matchScoreCard : Claim7 := { stood := { row := matchScoreRow, standIns := [], harness := (true, "9ceccafdae3e48de08b13b54d766fff50650d213ef96e4c4fb3037801ce54ba9"), looks := false }, kinds := [], alts := [], laidByText := true, laidKinds := [.data, .data, .data, .data, .data, .pinned], laidTests := true, laidLooks := .later }
def MatchScoreCardSaid : Prop := Claim7.holds Tryz.pinned (.plain (OpenSpec.ofChange matchScoreSpec)) matchScoreCard

/-- THE TIED CARD OF 'librarylaw15.MatchFind'. -/
def matchFindCard : Claim7 := { stood := { row := matchFindRow, standIns := [], harness := (true, "9ceccafdae3e48de08b13b54d766fff50650d213ef96e4c4fb3037801ce54ba9"), looks := false }, kinds := [], alts := [], laidByText := true, laidKinds := [.data, .data, .data, .data, .data, .pinned], laidTests := true, laidLooks := .later }
def MatchFindCardSaid : Prop := Claim7.holds Tryz.pinned (.plain (OpenSpec.ofChange matchFindSpec)) matchFindCard

/-- THE TIED CARD OF 'librarylaw15.MatchPairs'. -/
def matchPairsCard : Claim7 := { stood := { row := matchPairsRow, standIns := [], harness := (true, "9ceccafdae3e48de08b13b54d766fff50650d213ef96e4c4fb3037801ce54ba9"), looks := false }, kinds := [], alts := [], laidByText := true, laidKinds := [.data, .data, .data, .data, .data, .pinned], laidTests := true, laidLooks := .later }
def MatchPairsCardSaid : Prop := Claim7.holds Tryz.pinned (.plain (OpenSpec.ofChange matchPairsSpec)) matchPairsCard

/-- THE TIED CARD OF 'librarylaw15.MatchBoth'. -/
def matchBothCard : Claim7 := { stood := { row := matchBothRow, standIns := [], harness := (true, "9ceccafdae3e48de08b13b54d766fff50650d213ef96e4c4fb3037801ce54ba9"), looks := false }, kinds := [], alts := [], laidByText := true, laidKinds := [.data, .data, .data, .data, .data, .pinned], laidTests := true, laidLooks := .later }
def MatchBothCardSaid : Prop := Claim7.holds Tryz.pinned (.plain (OpenSpec.ofChange matchBothSpec)) matchBothCard

/-- THE SECOND FORM's CARD OF 'librarylaw15.MatchRight'. -/
def matchRightUptoCard : Claim7 := { stood := { row := matchRightUptoRow, standIns := [], harness := (true, "9ceccafdae3e48de08b13b54d766fff50650d213ef96e4c4fb3037801ce54ba9"), looks := false }, kinds := [], alts := [], laidByText := true, laidKinds := [.data, .data, .data, .data, .data, .pinned], laidTests := true, laidLooks := .later }
def MatchRightUptoCardSaid : Prop := Claim7.holds Tryz.pinned (.plain (OpenSpec.upto matchRightSpec)) matchRightUptoCard

/-- THE SECOND FORM's CARD OF 'librarylaw15.MatchKeys'. -/
def matchKeysUptoCard : Claim7 := { stood := { row := matchKeysUptoRow, standIns := [], harness := (true, "9ceccafdae3e48de08b13b54d766fff50650d213ef96e4c4fb3037801ce54ba9"), looks := false }, kinds := [], alts := [], laidByText := true, laidKinds := [.data, .data, .data, .data, .data, .pinned], laidTests := true, laidLooks := .later }
def MatchKeysUptoCardSaid : Prop := Claim7.holds Tryz.pinned (.plain (OpenSpec.upto matchKeysSpec)) matchKeysUptoCard

/-- THE SECOND FORM's CARD OF 'librarylaw15.MatchScore'. -/
def matchScoreUptoCard : Claim7 := { stood := { row := matchScoreUptoRow, standIns := [], harness := (true, "9ceccafdae3e48de08b13b54d766fff50650d213ef96e4c4fb3037801ce54ba9"), looks := false }, kinds := [], alts := [], laidByText := true, laidKinds := [.data, .data, .data, .data, .data, .pinned], laidTests := true, laidLooks := .later }
def MatchScoreUptoCardSaid : Prop := Claim7.holds Tryz.pinned (.plain (OpenSpec.upto matchScoreSpec)) matchScoreUptoCard

/-- THE SECOND FORM's CARD OF 'librarylaw15.MatchFind'. -/
def matchFindUptoCard : Claim7 := { stood := { row := matchFindUptoRow, standIns := [], harness := (true, "9ceccafdae3e48de08b13b54d766fff50650d213ef96e4c4fb3037801ce54ba9"), looks := false }, kinds := [], alts := [], laidByText := true, laidKinds := [.data, .data, .data, .data, .data, .pinned], laidTests := true, laidLooks := .later }
def MatchFindUptoCardSaid : Prop := Claim7.holds Tryz.pinned (.plain (OpenSpec.upto matchFindSpec)) matchFindUptoCard

/-- THE SECOND FORM's CARD OF 'librarylaw15.MatchPairs'. -/
def matchPairsUptoCard : Claim7 := { stood := { row := matchPairsUptoRow, standIns := [], harness := (true, "9ceccafdae3e48de08b13b54d766fff50650d213ef96e4c4fb3037801ce54ba9"), looks := false }, kinds := [], alts := [], laidByText := true, laidKinds := [.data, .data, .data, .data, .data, .pinned], laidTests := true, laidLooks := .later }
def MatchPairsUptoCardSaid : Prop := Claim7.holds Tryz.pinned (.plain (OpenSpec.upto matchPairsSpec)) matchPairsUptoCard

/-- THE SECOND FORM's CARD OF 'librarylaw15.MatchBoth'. -/
def matchBothUptoCard : Claim7 := { stood := { row := matchBothUptoRow, standIns := [], harness := (true, "9ceccafdae3e48de08b13b54d766fff50650d213ef96e4c4fb3037801ce54ba9"), looks := false }, kinds := [], alts := [], laidByText := true, laidKinds := [.data, .data, .data, .data, .data, .pinned], laidTests := true, laidLooks := .later }
def MatchBothUptoCardSaid : Prop := Claim7.holds Tryz.pinned (.plain (OpenSpec.upto matchBothSpec)) matchBothUptoCard
end Rows
end Go.Proofs.YtfjfpefpdlecbaaGreatDoor
