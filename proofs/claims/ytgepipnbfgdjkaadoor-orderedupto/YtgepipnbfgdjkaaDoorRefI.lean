import Derived.Test.YtgepipnbfgdjkaaDoorRefH
import Derived.Deep.RegionLaw
namespace Go.Proofs.YtgepipnbfgdjkaaDoor
open Go.ChangeShapes Go.WideShapes Go.ChangeAt Go.RowKit

end Go.Proofs.YtgepipnbfgdjkaaDoor
