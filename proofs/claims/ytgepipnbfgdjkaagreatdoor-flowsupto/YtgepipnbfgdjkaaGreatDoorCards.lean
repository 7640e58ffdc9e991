/-
  DERIVED. GIVEN WITH THE SEED: THE CARDS: each row of YtgepipnbfgdjkaaGreatDoorRows.lean that lists a variable, with what it lists TIED to the program's text (the seventh form; the later family's looks); each row that meets fmt, with fmt's text TOLD by the authors' own Lean function (tested against real Go, not proved from fmt's source: count such statements apart). THE CARD IS WHAT COUNTS. Prove the row's statement (the work); the ties are given (YtgepipnbfgdjkaaGreatDoorTie.lean); close each card by the builder's one call (the guide's Derived/Test/ToyasCard.lean, 'card_holds'). Laid BY PROGRAM, IN A SANDBOX (cutbox-door.mjs). By AI agents, Wed Nov 11 2026. No macro, syntax, notation, axiom, sorry.
-/
import Derived.Test.YtgepipnbfgdjkaaGreatDoorRows
import GoSem.ClaimSeven
namespace Go.Proofs.YtgepipnbfgdjkaaGreatDoor
namespace Rows

/-- THE TIED CARD OF 'tidelaw.Flows'. -/
def flowsCard : Claim7 := { stood := { row := flowsRow, standIns := [], harness := (true, "bb8304b35e49b8fe7b678d1195b8abe37c61a4f8b9a8eef05840bb06bba34656"), looks := false }, kinds := [], alts := [], laidByText := true, laidKinds := [.data], laidTests := true, laidLooks := .later }
def FlowsCardSaid : Prop := Claim7.holds Tryz.pinned (.plain (OpenSpec.ofChange flowsSpec)) flowsCard

/-- THE SECOND FORM's CARD OF 'tidelaw.Flows'. -/
def flowsUptoCard : Claim7 := { stood := { row := flowsUptoRow, standIns := [], harness := (true, "bb8304b35e49b8fe7b678d1195b8abe37c61a4f8b9a8eef05840bb06bba34656"), looks := false }, kinds := [], alts := [], laidByText := true, laidKinds := [.data], laidTests := true, laidLooks := .later }
def FlowsUptoCardSaid : Prop := Claim7.holds Tryz.pinned (.plain (OpenSpec.upto flowsSpec)) flowsUptoCard
end Rows
end Go.Proofs.YtgepipnbfgdjkaaGreatDoor
