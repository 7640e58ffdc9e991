/-
  DERIVED. GIVEN WITH THE SEED: THE CARDS: each row of YtnnoaolceeendaaGreatDoorRows.lean that lists a variable, with what it lists TIED to the program's text (the seventh form; the later family's looks); each row that meets fmt, with fmt's text TOLD by the authors' own Lean function (tested against real Go, not proved from fmt's source: count such statements apart). THE CARD IS WHAT COUNTS. Prove the row's statement (the work); the ties are given (YtnnoaolceeendaaGreatDoorTie.lean); close each card by the builder's one call (the guide's Derived/Test/ToyasCard.lean, 'card_holds'). Laid BY PROGRAM, IN A SANDBOX (cutbox-door.mjs). By AI agents, Wed Nov 11 2026. No macro, syntax, notation, axiom, sorry.
-/
import Derived.Test.YtnnoaolceeendaaGreatDoorRows
import GoSem.ClaimSeven
namespace Go.Proofs.YtnnoaolceeendaaGreatDoor
namespace Rows

/-- THE TIED CARD OF 'tidelaw.Flows'. -/
def flowsCard : Claim7 := { stood := { row := flowsRow, standIns := [], harness := (true, "fdee6e2fba0f1fd5670216580e46e7373c0e0f9c690687191736d9e43d9b62d0"), looks := false }, kinds := [], alts := [], goes := true, laidByText := true, laidKinds := [.data], laidTests := true, laidLooks := .later }
def FlowsCardSaid : Prop := Claim7.holds Tryz.pinned (.plain (OpenSpec.ofChange flowsSpec)) flowsCard

/-- THE TIED CARD OF 'tidelaw.Merges'. -/
def mergesCard : Claim7 := { stood := { row := mergesRow, standIns := [], harness := (true, "fdee6e2fba0f1fd5670216580e46e7373c0e0f9c690687191736d9e43d9b62d0"), looks := false }, kinds := [], alts := [], goes := true, laidByText := true, laidKinds := [.data], laidTests := true, laidLooks := .later }
def MergesCardSaid : Prop := Claim7.holds Tryz.pinned (.plain (OpenSpec.ofChange mergesSpec)) mergesCard

/-- THE TIED CARD OF 'tidelaw.Same'. -/
def sameCard : Claim7 := { stood := { row := sameRow, standIns := [], harness := (true, "fdee6e2fba0f1fd5670216580e46e7373c0e0f9c690687191736d9e43d9b62d0"), looks := false }, kinds := [], alts := [], goes := true, laidByText := true, laidKinds := [.data], laidTests := true, laidLooks := .later }
def SameCardSaid : Prop := Claim7.holds Tryz.pinned (.plain (OpenSpec.ofChange sameSpec)) sameCard

/-- THE TIED CARD OF 'tidelaw.Counted'. -/
def countedCard : Claim7 := { stood := { row := countedRow, standIns := [], harness := (true, "fdee6e2fba0f1fd5670216580e46e7373c0e0f9c690687191736d9e43d9b62d0"), looks := false }, kinds := [], alts := [], goes := true, laidByText := true, laidKinds := [.data], laidTests := true, laidLooks := .later }
def CountedCardSaid : Prop := Claim7.holds Tryz.pinned (.plain (OpenSpec.ofChange countedSpec)) countedCard

/-- THE SECOND FORM's CARD OF 'tidelaw.Flows'. -/
def flowsUptoCard : Claim7 := { stood := { row := flowsUptoRow, standIns := [], harness := (true, "fdee6e2fba0f1fd5670216580e46e7373c0e0f9c690687191736d9e43d9b62d0"), looks := false }, kinds := [], alts := [], goes := true, laidByText := true, laidKinds := [.data], laidTests := true, laidLooks := .later }
def FlowsUptoCardSaid : Prop := Claim7.holds Tryz.pinned (.plain (OpenSpec.upto flowsSpec)) flowsUptoCard

/-- THE SECOND FORM's CARD OF 'tidelaw.Merges'. -/
def mergesUptoCard : Claim7 := { stood := { row := mergesUptoRow, standIns := [], harness := (true, "fdee6e2fba0f1fd5670216580e46e7373c0e0f9c690687191736d9e43d9b62d0"), looks := false }, kinds := [], alts := [], goes := true, laidByText := true, laidKinds := [.data], laidTests := true, laidLooks := .later }
def MergesUptoCardSaid : Prop := Claim7.holds Tryz.pinned (.plain (OpenSpec.upto mergesSpec)) mergesUptoCard

/-- THE SECOND FORM's CARD OF 'tidelaw.Same'. -/
def sameUptoCard : Claim7 := { stood := { row := sameUptoRow, standIns := [], harness := (true, "fdee6e2fba0f1fd5670216580e46e7373c0e0f9c690687191736d9e43d9b62d0"), looks := false }, kinds := [], alts := [], goes := true, laidByText := true, laidKinds := [.data], laidTests := true, laidLooks := .later }
def SameUptoCardSaid : Prop := Claim7.holds Tryz.pinned (.plain (OpenSpec.upto sameSpec)) sameUptoCard

/-- THE SECOND FORM's CARD OF 'tidelaw.Counted'. -/
def countedUptoCard : Claim7 := { stood := { row := countedUptoRow, standIns := [], harness := (true, "fdee6e2fba0f1fd5670216580e46e7373c0e0f9c690687191736d9e43d9b62d0"), looks := false }, kinds := [], alts := [], goes := true, laidByText := true, laidKinds := [.data], laidTests := true, laidLooks := .later }
def CountedUptoCardSaid : Prop := Claim7.holds Tryz.pinned (.plain (OpenSpec.upto countedSpec)) countedUptoCard
end Rows
end Go.Proofs.YtnnoaolceeendaaGreatDoor
