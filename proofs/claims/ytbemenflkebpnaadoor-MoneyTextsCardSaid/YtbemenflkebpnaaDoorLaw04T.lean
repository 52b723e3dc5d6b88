/- The laws of layer 4 with the premise on the tables behind the facts on the arguments. -/
import Derived.Test.YtbemenflkebpnaaDoorLaw04B
import Derived.Test.YtbemenflkebpnaaDoorLaw04W
namespace Go.Proofs.YtbemenflkebpnaaDoor
open Go.RowKit

theorem lawSharesT_any (t : Int) (v : Value) (l : List Int) (w : World) (hv : IL v l w) (hz : l.length ≤ 9223372036854775807) (hT : Tab w) :
    Calls Tryd.prog 4 #[.int .i64 t, v] w fun e w' => e = .returned (.bool true) ∧ Below w.heap.size w w' := lawShares_any t v l w hT hv hz
theorem lawTextsT_any (n : Int) (s : ByteArray) (w : World) (hs : s.size ≤ 9223372036854775807) (hT : Tab w) :
    Calls Tryd.prog 5 #[.int .i64 n, .string s] w fun e w' => e = .returned (.bool true) ∧ Below w.heap.size w w' := lawTexts_any n s w hT hs
theorem lawWholeT_any (t : Int) (v : Value) (l : List Int) (w : World) (hv : IL v l w) (hz : l.length ≤ 9223372036854775807) (hT : Tab w) :
    Calls Tryd.prog 6 #[.int .i64 t, v] w fun e w' => e = .returned (.bool true) ∧ Below w.heap.size w w' := lawWhole_any t v l w hT hv hz
end Go.Proofs.YtbemenflkebpnaaDoor
