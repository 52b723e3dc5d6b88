/- libraryref07: digit, Code, Tag, in. -/
import Derived.Test.YtjfdolmcecgdgaaDoorQL
namespace Go.Proofs.YtjfdolmcecgdgaaDoor
open Go.RowKit Go.PlainAid

end Go.Proofs.YtjfdolmcecgdgaaDoor
