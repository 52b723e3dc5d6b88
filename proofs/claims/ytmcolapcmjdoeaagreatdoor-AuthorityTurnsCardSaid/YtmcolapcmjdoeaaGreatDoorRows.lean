/-
  NARROWER THAN 'FOR EVERY INPUT', by the rows' own cells (each row's printed sentence says how): AuthorityFinds: laid · AuthorityKeeps: laid · AuthorityTurns: laid.
  DERIVED. THE GIVEN ROWS OF THIS SEAT. 3 by the template 'for every input the law returns true; each argument reads behind the call as it read before'; 0 by the template 'total and deterministic' (their statements: YtmcolapcmjdoeaaGreatDoorTotals.lean).
  GIVEN WITH THE SEED: the statements are not yours to turn. If you find one false, say at which input.
  Laid BY PROGRAM, IN A SANDBOX (cutbox-rows.mjs): the forced cells as the released guide's own fill.sh prints them over the translation 926365cd1f04e9cb… (all of the seat's roots in one cut). By AI agents, Wed Nov 11 2026. No macro, syntax, notation, axiom, sorry.
-/
import Derived.Test.YtmcolapcmjdoeaaGreatDoorChecked
import GoSem.PinnedTables
import GoSem.Claim
import GoSem.ClaimJoined
import GoSem.ClaimMapViews
import Derived.JoinedTies
import Derived.KernelRfl
namespace Go.Proofs.YtmcolapcmjdoeaaGreatDoor
/- THE CELL 'sum', in the pinned program and in every row, IS THE sha256 OF THE DUMP (.gsa) THAT YtmcolapcmjdoeaaGreatDoorProg.lean LOADS. Nothing in Lean hashes anything: it is a label: what it is worth is what the hold of that sum in a sandbox is worth. -/
noncomputable def Tryz.pinned : Pinned := { name := "ytmcolapcmjdoeaagreatdoor", sum := "926365cd1f04e9cb7441573d5c2718e1755674319621ba60aca4b4725c7d914b", checked := Tryz.checked }
namespace Rows
def none {H : Type} : Left H := { results := [], args := [] }

/- WHAT THE LISTED PACKAGE-LEVEL VARIABLES READ AS WHEN THE CALL BEGINS. Each datum BY PROGRAM (the guide's laid-datum.mjs) off the statement by which the dump's own 'gosem.cut.vars' lays the variable. In a bare row this is a premise. The card (YtmcolapcmjdoeaaGreatDoorCards.lean) ties it to the program's text. -/
def laid_unicode_utf8_acceptRanges {H : Type} : DataW H := .agg [.agg [.lit (.int .u8 128), .lit (.int .u8 191)], .agg [.lit (.int .u8 160), .lit (.int .u8 191)], .agg [.lit (.int .u8 128), .lit (.int .u8 159)], .agg [.lit (.int .u8 144), .lit (.int .u8 191)], .agg [.lit (.int .u8 128), .lit (.int .u8 143)], .agg [.lit (.int .u8 0), .lit (.int .u8 0)], .agg [.lit (.int .u8 0), .lit (.int .u8 0)], .agg [.lit (.int .u8 0), .lit (.int .u8 0)], .agg [.lit (.int .u8 0), .lit (.int .u8 0)], .agg [.lit (.int .u8 0), .lit (.int .u8 0)], .agg [.lit (.int .u8 0), .lit (.int .u8 0)], .agg [.lit (.int .u8 0), .lit (.int .u8 0)], .agg [.lit (.int .u8 0), .lit (.int .u8 0)], .agg [.lit (.int .u8 0), .lit (.int .u8 0)], .agg [.lit (.int .u8 0), .lit (.int .u8 0)], .agg [.lit (.int .u8 0), .lit (.int .u8 0)]]
def laid_library_text_accents {H : Type} : DataW H := .agg [.lit (.string [97]), .lit (.string [97]), .lit (.string [97]), .lit (.string [97]), .lit (.string [97]), .lit (.string [97]), .lit (.string [97, 101]), .lit (.string [99]), .lit (.string [101]), .lit (.string [101]), .lit (.string [101]), .lit (.string [101]), .lit (.string [105]), .lit (.string [105]), .lit (.string [105]), .lit (.string [105]), .lit (.string [100]), .lit (.string [110]), .lit (.string [111]), .lit (.string [111]), .lit (.string [111]), .lit (.string [111]), .lit (.string [111]), .lit (.string [195, 151]), .lit (.string [111]), .lit (.string [117]), .lit (.string [117]), .lit (.string [117]), .lit (.string [117]), .lit (.string [121]), .lit (.string [116, 104]), .lit (.string [115, 115]), .lit (.string [97]), .lit (.string [97]), .lit (.string [97]), .lit (.string [97]), .lit (.string [97]), .lit (.string [97]), .lit (.string [97, 101]), .lit (.string [99]), .lit (.string [101]), .lit (.string [101]), .lit (.string [101]), .lit (.string [101]), .lit (.string [105]), .lit (.string [105]), .lit (.string [105]), .lit (.string [105]), .lit (.string [100]), .lit (.string [110]), .lit (.string [111]), .lit (.string [111]), .lit (.string [111]), .lit (.string [111]), .lit (.string [111]), .lit (.string [195, 183]), .lit (.string [111]), .lit (.string [117]), .lit (.string [117]), .lit (.string [117]), .lit (.string [117]), .lit (.string [121]), .lit (.string [116, 104]), .lit (.string [121])]
/-- One of Go's own tables, pinned by name: the form's constant. -/
def laid_unicode_utf8_first : DataW Unit := Go.Pinned.utf8First

/-- 'librarylaw13.AuthorityFinds': WHATEVER THE INPUT: true; the input reads as it did. -/
def authorityFindsSpec : ChangeSpec := { name := "authorityFinds", fn := fun _ => fun
  | [d1, d2, d3, d4] => { results := [.lit (.bool true)], args := [d1, d2, d3, d4] }
  | _ => none }
def authorityFindsRow : OpenClaim := { program := "ytmcolapcmjdoeaagreatdoor", sum := "926365cd1f04e9cb7441573d5c2718e1755674319621ba60aca4b4725c7d914b", func := "library/librarylaw13.AuthorityFinds", spec := "authorityFinds", inPlace := ["internal/bytealg.CountString", "internal/bytealg.IndexByteString", "internal/bytealg.IndexString", "internal/abi.NoEscape", "internal/bytealg.MakeNoZero", "slices.overlaps[library/api.Authority]"], unfollowed := true, recurses := true, named := ["unicode/utf8.first", "unicode/utf8.acceptRanges", "internal/bytealg.MaxLen", "library/text.accents"], plainKeys := false, apart := false, laid := [("unicode/utf8.acceptRanges", laid_unicode_utf8_acceptRanges), ("library/text.accents", laid_library_text_accents), ("unicode/utf8.first", laid_unicode_utf8_first)] }
def AuthorityFindsSaid : Prop := authorityFindsRow.holds Tryz.pinned (OpenSpec.ofChange authorityFindsSpec)

/-- ITS FALSE NEIGHBOUR: 'it returns false'. Refute it at one input. -/
def authorityFindsWrong : ChangeSpec := { name := "authorityFinds", fn := fun _ => fun
  | [d1, d2, d3, d4] => { results := [.lit (.bool false)], args := [d1, d2, d3, d4] }
  | _ => none }
def AuthorityFindsWrongFalsely : Prop := authorityFindsRow.holds Tryz.pinned (OpenSpec.ofChange authorityFindsWrong)

/-- 'librarylaw13.AuthorityKeeps': WHATEVER THE INPUT: true; the input reads as it did. -/
def authorityKeepsSpec : ChangeSpec := { name := "authorityKeeps", fn := fun _ => fun
  | [d1, d2, d3, d4] => { results := [.lit (.bool true)], args := [d1, d2, d3, d4] }
  | _ => none }
def authorityKeepsRow : OpenClaim := { program := "ytmcolapcmjdoeaagreatdoor", sum := "926365cd1f04e9cb7441573d5c2718e1755674319621ba60aca4b4725c7d914b", func := "library/librarylaw13.AuthorityKeeps", spec := "authorityKeeps", inPlace := ["internal/bytealg.CountString", "internal/bytealg.IndexByteString", "internal/bytealg.IndexString", "internal/abi.NoEscape", "internal/bytealg.MakeNoZero", "slices.overlaps[library/api.Authority]", "slices.overlaps[int]"], unfollowed := true, recurses := true, named := ["unicode/utf8.first", "unicode/utf8.acceptRanges", "internal/bytealg.MaxLen", "library/text.accents"], plainKeys := false, apart := false, laid := [("unicode/utf8.acceptRanges", laid_unicode_utf8_acceptRanges), ("library/text.accents", laid_library_text_accents), ("unicode/utf8.first", laid_unicode_utf8_first)] }
def AuthorityKeepsSaid : Prop := authorityKeepsRow.holds Tryz.pinned (OpenSpec.ofChange authorityKeepsSpec)

/-- ITS FALSE NEIGHBOUR: 'it returns false'. Refute it at one input. -/
def authorityKeepsWrong : ChangeSpec := { name := "authorityKeeps", fn := fun _ => fun
  | [d1, d2, d3, d4] => { results := [.lit (.bool false)], args := [d1, d2, d3, d4] }
  | _ => none }
def AuthorityKeepsWrongFalsely : Prop := authorityKeepsRow.holds Tryz.pinned (OpenSpec.ofChange authorityKeepsWrong)

/-- 'librarylaw13.AuthorityTurns': WHATEVER THE INPUT: true; the input reads as it did. -/
def authorityTurnsSpec : ChangeSpec := { name := "authorityTurns", fn := fun _ => fun
  | [d] => { results := [.lit (.bool true)], args := [d] }
  | _ => none }
def authorityTurnsRow : OpenClaim := { program := "ytmcolapcmjdoeaagreatdoor", sum := "926365cd1f04e9cb7441573d5c2718e1755674319621ba60aca4b4725c7d914b", func := "library/librarylaw13.AuthorityTurns", spec := "authorityTurns", inPlace := ["internal/bytealg.CountString", "internal/bytealg.IndexByteString", "internal/bytealg.IndexString", "internal/abi.NoEscape", "internal/bytealg.MakeNoZero", "slices.overlaps[library/api.Authority]"], unfollowed := true, recurses := true, named := ["unicode/utf8.first", "unicode/utf8.acceptRanges", "internal/bytealg.MaxLen", "library/text.accents"], plainKeys := false, apart := false, laid := [("unicode/utf8.acceptRanges", laid_unicode_utf8_acceptRanges), ("library/text.accents", laid_library_text_accents), ("unicode/utf8.first", laid_unicode_utf8_first)] }
def AuthorityTurnsSaid : Prop := authorityTurnsRow.holds Tryz.pinned (OpenSpec.ofChange authorityTurnsSpec)

/-- ITS FALSE NEIGHBOUR: 'it returns false'. Refute it at one input. -/
def authorityTurnsWrong : ChangeSpec := { name := "authorityTurns", fn := fun _ => fun
  | [d] => { results := [.lit (.bool false)], args := [d] }
  | _ => none }
def AuthorityTurnsWrongFalsely : Prop := authorityTurnsRow.holds Tryz.pinned (OpenSpec.ofChange authorityTurnsWrong)

/- THE SECOND FORM. 'bulk': how many values and letters a reading holds, each counted each time it is reached (what is shared counts as often as it is met; a slice's spare places count too). A statement '..UptoSaid' is the law's where the arguments, and the package variables that the reading takes, are together of bulk at most 1048576: NARROWER than '..Said'. Prove '..Said' where nothing that the law and all that it calls make is longer than what came in: it says more and counts as full. Else prove '..UptoSaid'. A law counts once. -/
mutual
def uptoBulk {H : Type} : DataW H → Nat
  | .lit (.string bytes) => bytes.length + 1
  | .lit _ => 1
  | .nil => 1
  | .ptr d => uptoBulk d + 1
  | .slice elems spare => uptoBulkAll elems + uptoBulkAll spare + 1
  | .agg parts => uptoBulkAll parts + 1
  | .iface _ d => uptoBulk d + 1
  | .map entries => uptoBulkEntries entries + 1
  | .held _ => 1
def uptoBulkAll {H : Type} : List (DataW H) → Nat
  | [] => 0
  | d :: r => uptoBulk d + uptoBulkAll r
def uptoBulkEntries {H : Type} : List (Lit × DataW H) → Nat
  | [] => 0
  | x :: r => uptoBulkEntry x + uptoBulkEntries r
def uptoBulkEntry {H : Type} : Lit × DataW H → Nat
  | (.string bytes, d) => bytes.length + uptoBulk d + 1
  | (_, d) => uptoBulk d + 1
 end
def uptoSmall : (H : Type) → List (DataW H) → Bool := fun _ ds => decide (uptoBulkAll ds ≤ 1048576)
def OpenSpec.upto (s : _root_.Go.ChangeSpec) : _root_.Go.OpenSpec := { _root_.Go.OpenSpec.ofChange s with cond := some uptoSmall }

/-- 'librarylaw13.AuthorityFinds', WHERE WHAT IT READS IS OF BULK AT MOST 1048576: true; the input reads as it did. -/
def authorityFindsUptoRow : OpenClaim := { program := "ytmcolapcmjdoeaagreatdoor", sum := "926365cd1f04e9cb7441573d5c2718e1755674319621ba60aca4b4725c7d914b", func := "library/librarylaw13.AuthorityFinds", spec := "authorityFinds", inPlace := ["internal/bytealg.CountString", "internal/bytealg.IndexByteString", "internal/bytealg.IndexString", "internal/abi.NoEscape", "internal/bytealg.MakeNoZero", "slices.overlaps[library/api.Authority]"], unfollowed := true, recurses := true, named := ["unicode/utf8.first", "unicode/utf8.acceptRanges", "internal/bytealg.MaxLen", "library/text.accents"], plainKeys := false, apart := false, laid := [("unicode/utf8.acceptRanges", laid_unicode_utf8_acceptRanges), ("library/text.accents", laid_library_text_accents), ("unicode/utf8.first", laid_unicode_utf8_first)], narrowed := true }
def AuthorityFindsUptoSaid : Prop := authorityFindsUptoRow.holds Tryz.pinned (OpenSpec.upto authorityFindsSpec)

/-- 'librarylaw13.AuthorityKeeps', WHERE WHAT IT READS IS OF BULK AT MOST 1048576: true; the input reads as it did. -/
def authorityKeepsUptoRow : OpenClaim := { program := "ytmcolapcmjdoeaagreatdoor", sum := "926365cd1f04e9cb7441573d5c2718e1755674319621ba60aca4b4725c7d914b", func := "library/librarylaw13.AuthorityKeeps", spec := "authorityKeeps", inPlace := ["internal/bytealg.CountString", "internal/bytealg.IndexByteString", "internal/bytealg.IndexString", "internal/abi.NoEscape", "internal/bytealg.MakeNoZero", "slices.overlaps[library/api.Authority]", "slices.overlaps[int]"], unfollowed := true, recurses := true, named := ["unicode/utf8.first", "unicode/utf8.acceptRanges", "internal/bytealg.MaxLen", "library/text.accents"], plainKeys := false, apart := false, laid := [("unicode/utf8.acceptRanges", laid_unicode_utf8_acceptRanges), ("library/text.accents", laid_library_text_accents), ("unicode/utf8.first", laid_unicode_utf8_first)], narrowed := true }
def AuthorityKeepsUptoSaid : Prop := authorityKeepsUptoRow.holds Tryz.pinned (OpenSpec.upto authorityKeepsSpec)

/-- 'librarylaw13.AuthorityTurns', WHERE WHAT IT READS IS OF BULK AT MOST 1048576: true; the input reads as it did. -/
def authorityTurnsUptoRow : OpenClaim := { program := "ytmcolapcmjdoeaagreatdoor", sum := "926365cd1f04e9cb7441573d5c2718e1755674319621ba60aca4b4725c7d914b", func := "library/librarylaw13.AuthorityTurns", spec := "authorityTurns", inPlace := ["internal/bytealg.CountString", "internal/bytealg.IndexByteString", "internal/bytealg.IndexString", "internal/abi.NoEscape", "internal/bytealg.MakeNoZero", "slices.overlaps[library/api.Authority]"], unfollowed := true, recurses := true, named := ["unicode/utf8.first", "unicode/utf8.acceptRanges", "internal/bytealg.MaxLen", "library/text.accents"], plainKeys := false, apart := false, laid := [("unicode/utf8.acceptRanges", laid_unicode_utf8_acceptRanges), ("library/text.accents", laid_library_text_accents), ("unicode/utf8.first", laid_unicode_utf8_first)], narrowed := true }
def AuthorityTurnsUptoSaid : Prop := authorityTurnsUptoRow.holds Tryz.pinned (OpenSpec.upto authorityTurnsSpec)

end Rows
end Go.Proofs.YtmcolapcmjdoeaaGreatDoor
