/-
  DERIVED. GIVEN WITH THE SEED: THE CARDS: each row of YtibniadebbgjcaaDoorRows.lean that lists a variable, with what it lists TIED to the program's text (the seventh form; the later family's looks); each row that meets fmt, with fmt's text TOLD by the authors' own Lean function (tested against real Go, not proved from fmt's source: count such statements apart). THE CARD IS WHAT COUNTS. Prove the row's statement (the work); the ties are given (YtibniadebbgjcaaDoorTie.lean); close each card by the builder's one call (the guide's Derived/Test/ToyasCard.lean, 'card_holds'). Laid BY PROGRAM, IN A SANDBOX (cutbox-door.mjs). By AI agents, Wed Nov 11 2026. No macro, syntax, notation, axiom, sorry.
-/
import Derived.Test.YtibniadebbgjcaaDoorRows
import GoSem.ClaimSeven
namespace Go.Proofs.YtibniadebbgjcaaDoor
namespace Rows

/-- THE TIED CARD OF 'sennitlaw04.ConfigsNew'. -/
def configsNewCard : Claim7 := { stood := { row := configsNewRow, standIns := [], harness := (true, "006623c346018da9e6fcc085bddad214b96ac9518cda41633c5d02252fc8472a"), looks := false }, kinds := [], alts := [], laidByText := true, laidKinds := [.data], laidTests := true, laidLooks := .later }
def ConfigsNewCardSaid : Prop := Claim7.holds Tryd.pinned (.plain (OpenSpec.ofChange configsNewSpec)) configsNewCard

/-- THE TIED CARD OF 'sennitlaw04.ConfigsAsk'. -/
def configsAskCard : Claim7 := { stood := { row := configsAskRow, standIns := [], harness := (true, "006623c346018da9e6fcc085bddad214b96ac9518cda41633c5d02252fc8472a"), looks := false }, kinds := [], alts := [], laidByText := true, laidKinds := [.data], laidTests := true, laidLooks := .later }
def ConfigsAskCardSaid : Prop := Claim7.holds Tryd.pinned (.plain (OpenSpec.ofChange configsAskSpec)) configsAskCard

/-- THE TIED CARD OF 'sennitlaw04.ConfigsVoid'. -/
def configsVoidCard : Claim7 := { stood := { row := configsVoidRow, standIns := [], harness := (true, "006623c346018da9e6fcc085bddad214b96ac9518cda41633c5d02252fc8472a"), looks := false }, kinds := [], alts := [], laidByText := true, laidKinds := [.data], laidTests := true, laidLooks := .later }
def ConfigsVoidCardSaid : Prop := Claim7.holds Tryd.pinned (.plain (OpenSpec.ofChange configsVoidSpec)) configsVoidCard

/-- THE TIED CARD OF 'sennitlaw04.ConfigsHalves'. -/
def configsHalvesCard : Claim7 := { stood := { row := configsHalvesRow, standIns := [], harness := (true, "006623c346018da9e6fcc085bddad214b96ac9518cda41633c5d02252fc8472a"), looks := false }, kinds := [], alts := [], laidByText := true, laidKinds := [.data], laidTests := true, laidLooks := .later }
def ConfigsHalvesCardSaid : Prop := Claim7.holds Tryd.pinned (.plain (OpenSpec.ofChange configsHalvesSpec)) configsHalvesCard

/-- THE TIED CARD OF 'sennitlaw04.ConfigsTurned'. -/
def configsTurnedCard : Claim7 := { stood := { row := configsTurnedRow, standIns := [], harness := (true, "006623c346018da9e6fcc085bddad214b96ac9518cda41633c5d02252fc8472a"), looks := false }, kinds := [], alts := [], laidByText := true, laidKinds := [.data], laidTests := true, laidLooks := .later }
def ConfigsTurnedCardSaid : Prop := Claim7.holds Tryd.pinned (.plain (OpenSpec.ofChange configsTurnedSpec)) configsTurnedCard

/-- THE TIED CARD OF 'sennitlaw04.ConfigsEdges'. -/
def configsEdgesCard : Claim7 := { stood := { row := configsEdgesRow, standIns := [], harness := (true, "006623c346018da9e6fcc085bddad214b96ac9518cda41633c5d02252fc8472a"), looks := false }, kinds := [], alts := [], laidByText := true, laidKinds := [.data], laidTests := true, laidLooks := .later }
def ConfigsEdgesCardSaid : Prop := Claim7.holds Tryd.pinned (.plain (OpenSpec.ofChange configsEdgesSpec)) configsEdgesCard

/-- THE SECOND FORM's CARD OF 'sennitlaw04.ConfigsNew'. -/
def configsNewUptoCard : Claim7 := { stood := { row := configsNewUptoRow, standIns := [], harness := (true, "006623c346018da9e6fcc085bddad214b96ac9518cda41633c5d02252fc8472a"), looks := false }, kinds := [], alts := [], laidByText := true, laidKinds := [.data], laidTests := true, laidLooks := .later }
def ConfigsNewUptoCardSaid : Prop := Claim7.holds Tryd.pinned (.plain (OpenSpec.upto configsNewSpec)) configsNewUptoCard

/-- THE SECOND FORM's CARD OF 'sennitlaw04.ConfigsAsk'. -/
def configsAskUptoCard : Claim7 := { stood := { row := configsAskUptoRow, standIns := [], harness := (true, "006623c346018da9e6fcc085bddad214b96ac9518cda41633c5d02252fc8472a"), looks := false }, kinds := [], alts := [], laidByText := true, laidKinds := [.data], laidTests := true, laidLooks := .later }
def ConfigsAskUptoCardSaid : Prop := Claim7.holds Tryd.pinned (.plain (OpenSpec.upto configsAskSpec)) configsAskUptoCard

/-- THE SECOND FORM's CARD OF 'sennitlaw04.ConfigsVoid'. -/
def configsVoidUptoCard : Claim7 := { stood := { row := configsVoidUptoRow, standIns := [], harness := (true, "006623c346018da9e6fcc085bddad214b96ac9518cda41633c5d02252fc8472a"), looks := false }, kinds := [], alts := [], laidByText := true, laidKinds := [.data], laidTests := true, laidLooks := .later }
def ConfigsVoidUptoCardSaid : Prop := Claim7.holds Tryd.pinned (.plain (OpenSpec.upto configsVoidSpec)) configsVoidUptoCard

/-- THE SECOND FORM's CARD OF 'sennitlaw04.ConfigsHalves'. -/
def configsHalvesUptoCard : Claim7 := { stood := { row := configsHalvesUptoRow, standIns := [], harness := (true, "006623c346018da9e6fcc085bddad214b96ac9518cda41633c5d02252fc8472a"), looks := false }, kinds := [], alts := [], laidByText := true, laidKinds := [.data], laidTests := true, laidLooks := .later }
def ConfigsHalvesUptoCardSaid : Prop := Claim7.holds Tryd.pinned (.plain (OpenSpec.upto configsHalvesSpec)) configsHalvesUptoCard

/-- THE SECOND FORM's CARD OF 'sennitlaw04.ConfigsTurned'. -/
def configsTurnedUptoCard : Claim7 := { stood := { row := configsTurnedUptoRow, standIns := [], harness := (true, "006623c346018da9e6fcc085bddad214b96ac9518cda41633c5d02252fc8472a"), looks := false }, kinds := [], alts := [], laidByText := true, laidKinds := [.data], laidTests := true, laidLooks := .later }
def ConfigsTurnedUptoCardSaid : Prop := Claim7.holds Tryd.pinned (.plain (OpenSpec.upto configsTurnedSpec)) configsTurnedUptoCard

/-- THE SECOND FORM's CARD OF 'sennitlaw04.ConfigsEdges'. -/
def configsEdgesUptoCard : Claim7 := { stood := { row := configsEdgesUptoRow, standIns := [], harness := (true, "006623c346018da9e6fcc085bddad214b96ac9518cda41633c5d02252fc8472a"), looks := false }, kinds := [], alts := [], laidByText := true, laidKinds := [.data], laidTests := true, laidLooks := .later }
def ConfigsEdgesUptoCardSaid : Prop := Claim7.holds Tryd.pinned (.plain (OpenSpec.upto configsEdgesSpec)) configsEdgesUptoCard
end Rows
end Go.Proofs.YtibniadebbgjcaaDoor
