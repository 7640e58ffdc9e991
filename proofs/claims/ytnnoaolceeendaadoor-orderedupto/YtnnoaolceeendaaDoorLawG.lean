import Derived.Test.YtnnoaolceeendaaDoorLawF
namespace Go.Proofs.YtnnoaolceeendaaDoor
open Go.ChangeShapes Go.WideShapes Go.ChangeAt Go.RowKit

section
variable {L : World → Prop} {B0 : Nat} {FA : World → Nat → Cf → M.Fl ByteArray → (Nat → Prop) → Prop} {w0 w w1 : World} {g gr go : Nat} {C : Cf} {q q1 qo qo1 : M.Fl ByteArray} {S So So1 : Nat → Prop} {pv ov tv av : Value}

end

end Go.Proofs.YtnnoaolceeendaaDoor
