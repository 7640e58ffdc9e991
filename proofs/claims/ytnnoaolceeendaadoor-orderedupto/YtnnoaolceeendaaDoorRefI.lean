import Derived.Test.YtnnoaolceeendaaDoorRefH
import Derived.Deep.RegionLaw
namespace Go.Proofs.YtnnoaolceeendaaDoor
open Go.ChangeShapes Go.WideShapes Go.ChangeAt Go.RowKit

end Go.Proofs.YtnnoaolceeendaaDoor
