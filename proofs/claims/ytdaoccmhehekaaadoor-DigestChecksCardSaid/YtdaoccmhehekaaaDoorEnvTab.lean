/- What every row of this seat lists of the program's tables. -/
import Derived.Test.YtdaoccmhehekaaaDoorRows
import Derived.Shelf.Vars
import Derived.LaidMore
import Derived.Stop.LaidErr
import Derived.Test.YtdaoccmhehekaaaDoorArgsB
namespace Go.Proofs.YtdaoccmhehekaaaDoor

def laid3 : List (String × DataW Unit) := Rows.digestSumsRow.laid
end Go.Proofs.YtdaoccmhehekaaaDoor
