import Derived.Test.YtnnoaolceeendaaDoorRefD
namespace Go.Proofs.YtnnoaolceeendaaDoor
open Go.ChangeShapes Go.WideShapes Go.ChangeAt Go.RowKit

end Go.Proofs.YtnnoaolceeendaaDoor
