/- libraryref07: Tag, All. -/
import Derived.Test.YtjfdolmcecgdgaaDoorR07B
import Derived.Test.YtjfdolmcecgdgaaDoorBL
namespace Go.Proofs.YtjfdolmcecgdgaaDoor
open Go.RowKit Go.PlainAid

end Go.Proofs.YtjfdolmcecgdgaaDoor
