/-
  DERIVED. GIVEN WITH THE SEED: THE CARDS: each row of YtkejpkcaojidaaaGreatDoorRows.lean that lists a variable, with what it lists TIED to the program's text (the seventh form; the later family's looks); each row that meets fmt, with fmt's text TOLD by the authors' own Lean function (tested against real Go, not proved from fmt's source: count such statements apart). THE CARD IS WHAT COUNTS. Prove the row's statement (the work); the ties are given (YtkejpkcaojidaaaGreatDoorTie.lean); close each card by the builder's one call (the guide's Derived/Test/ToyasCard.lean, 'card_holds'). Laid BY PROGRAM, IN A SANDBOX (cutbox-door.mjs). By AI agents, Wed Nov 11 2026. No macro, syntax, notation, axiom, sorry.
-/
import Derived.Test.YtkejpkcaojidaaaGreatDoorRows
import GoSem.ClaimSeven
namespace Go.Proofs.YtkejpkcaojidaaaGreatDoor
namespace Rows

/-- THE TIED CARD OF 'sennitlaw12.FlowsRun'. -/
def flowsRunCard : Claim7 := { stood := { row := flowsRunRow, standIns := [], harness := (true, "d444cc21c33502c40c886e25fdab36b47fe1bb231b501adda5ac9dd310432013"), looks := true }, kinds := [], alts := [], laidByText := true, laidKinds := [.data, .data], laidTests := true, laidLooks := .later }
def FlowsRunCardSaid : Prop := Claim7.holds Tryz.pinned (.plain (OpenSpec.ofChange flowsRunSpec)) flowsRunCard

/-- THE SECOND FORM's CARD OF 'sennitlaw12.FlowsRun'. -/
def flowsRunUptoCard : Claim7 := { stood := { row := flowsRunUptoRow, standIns := [], harness := (true, "d444cc21c33502c40c886e25fdab36b47fe1bb231b501adda5ac9dd310432013"), looks := true }, kinds := [], alts := [], laidByText := true, laidKinds := [.data, .data], laidTests := true, laidLooks := .later }
def FlowsRunUptoCardSaid : Prop := Claim7.holds Tryz.pinned (.plain (OpenSpec.upto flowsRunSpec)) flowsRunUptoCard
end Rows
end Go.Proofs.YtkejpkcaojidaaaGreatDoor
