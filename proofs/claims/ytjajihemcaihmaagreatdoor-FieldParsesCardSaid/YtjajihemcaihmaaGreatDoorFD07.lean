/- Package field: slices.Equal, Same. -/
import Derived.Test.YtjajihemcaihmaaGreatDoorFC07
import Derived.Test.YtjajihemcaihmaaGreatDoorR07E
namespace Go.Proofs.YtjajihemcaihmaaGreatDoor
open Go.RowKit Go.PlainAid

end Go.Proofs.YtjajihemcaihmaaGreatDoor
