/-
  DERIVED. GIVEN WITH THE SEED: THE CARDS: each row of YtonddecdeeikgaaDoorRows.lean that lists a variable, with what it lists TIED to the program's text (the seventh form; the later family's looks); each row that meets fmt, with fmt's text TOLD by the authors' own Lean function (tested against real Go, not proved from fmt's source: count such statements apart). THE CARD IS WHAT COUNTS. Prove the row's statement (the work); the ties are given (YtonddecdeeikgaaDoorTie.lean); close each card by the builder's one call (the guide's Derived/Test/ToyasCard.lean, 'card_holds'). Laid BY PROGRAM, IN A SANDBOX (cutbox-door.mjs). By AI agents, Wed Nov 11 2026. No macro, syntax, notation, axiom, sorry.
-/
import Derived.Test.YtonddecdeeikgaaDoorRows
import GoSem.ClaimSeven
namespace Go.Proofs.YtonddecdeeikgaaDoor
namespace Rows

/-- THE TIED CARD OF 'sennitlaw06.ClocksOf'. -/
def clocksOfCard : Claim7 := { stood := { row := clocksOfRow, standIns := [], harness := (true, "416531b45f39d4cffcaad1400a609f2cbff1231e391c056aa389e6506ab574d2"), looks := false }, kinds := [], alts := [], laidByText := true, laidKinds := [.data], laidTests := true, laidLooks := .later }
def ClocksOfCardSaid : Prop := Claim7.holds Tryd.pinned (.plain (OpenSpec.ofChange clocksOfSpec)) clocksOfCard

/-- THE TIED CARD OF 'sennitlaw06.ClocksVoid'. -/
def clocksVoidCard : Claim7 := { stood := { row := clocksVoidRow, standIns := [], harness := (true, "416531b45f39d4cffcaad1400a609f2cbff1231e391c056aa389e6506ab574d2"), looks := false }, kinds := [], alts := [], laidByText := true, laidKinds := [.data], laidTests := true, laidLooks := .later }
def ClocksVoidCardSaid : Prop := Claim7.holds Tryd.pinned (.plain (OpenSpec.ofChange clocksVoidSpec)) clocksVoidCard

/-- THE TIED CARD OF 'sennitlaw06.ClocksBack'. -/
def clocksBackCard : Claim7 := { stood := { row := clocksBackRow, standIns := [], harness := (true, "416531b45f39d4cffcaad1400a609f2cbff1231e391c056aa389e6506ab574d2"), looks := false }, kinds := [], alts := [], laidByText := true, laidKinds := [.data], laidTests := true, laidLooks := .later }
def ClocksBackCardSaid : Prop := Claim7.holds Tryd.pinned (.plain (OpenSpec.ofChange clocksBackSpec)) clocksBackCard

/-- THE TIED CARD OF 'sennitlaw06.ClocksWhole'. -/
def clocksWholeCard : Claim7 := { stood := { row := clocksWholeRow, standIns := [], harness := (true, "416531b45f39d4cffcaad1400a609f2cbff1231e391c056aa389e6506ab574d2"), looks := false }, kinds := [], alts := [], laidByText := true, laidKinds := [.data], laidTests := true, laidLooks := .later }
def ClocksWholeCardSaid : Prop := Claim7.holds Tryd.pinned (.plain (OpenSpec.ofChange clocksWholeSpec)) clocksWholeCard

/-- THE TIED CARD OF 'sennitlaw06.ClocksGo'. -/
def clocksGoCard : Claim7 := { stood := { row := clocksGoRow, standIns := [], harness := (true, "416531b45f39d4cffcaad1400a609f2cbff1231e391c056aa389e6506ab574d2"), looks := false }, kinds := [], alts := [], laidByText := true, laidKinds := [.data], laidTests := true, laidLooks := .later }
def ClocksGoCardSaid : Prop := Claim7.holds Tryd.pinned (.plain (OpenSpec.ofChange clocksGoSpec)) clocksGoCard

/-- THE SECOND FORM's CARD OF 'sennitlaw06.ClocksOf'. -/
def clocksOfUptoCard : Claim7 := { stood := { row := clocksOfUptoRow, standIns := [], harness := (true, "416531b45f39d4cffcaad1400a609f2cbff1231e391c056aa389e6506ab574d2"), looks := false }, kinds := [], alts := [], laidByText := true, laidKinds := [.data], laidTests := true, laidLooks := .later }
def ClocksOfUptoCardSaid : Prop := Claim7.holds Tryd.pinned (.plain (OpenSpec.upto clocksOfSpec)) clocksOfUptoCard

/-- THE SECOND FORM's CARD OF 'sennitlaw06.ClocksVoid'. -/
def clocksVoidUptoCard : Claim7 := { stood := { row := clocksVoidUptoRow, standIns := [], harness := (true, "416531b45f39d4cffcaad1400a609f2cbff1231e391c056aa389e6506ab574d2"), looks := false }, kinds := [], alts := [], laidByText := true, laidKinds := [.data], laidTests := true, laidLooks := .later }
def ClocksVoidUptoCardSaid : Prop := Claim7.holds Tryd.pinned (.plain (OpenSpec.upto clocksVoidSpec)) clocksVoidUptoCard

/-- THE SECOND FORM's CARD OF 'sennitlaw06.ClocksBack'. -/
def clocksBackUptoCard : Claim7 := { stood := { row := clocksBackUptoRow, standIns := [], harness := (true, "416531b45f39d4cffcaad1400a609f2cbff1231e391c056aa389e6506ab574d2"), looks := false }, kinds := [], alts := [], laidByText := true, laidKinds := [.data], laidTests := true, laidLooks := .later }
def ClocksBackUptoCardSaid : Prop := Claim7.holds Tryd.pinned (.plain (OpenSpec.upto clocksBackSpec)) clocksBackUptoCard

/-- THE SECOND FORM's CARD OF 'sennitlaw06.ClocksWhole'. -/
def clocksWholeUptoCard : Claim7 := { stood := { row := clocksWholeUptoRow, standIns := [], harness := (true, "416531b45f39d4cffcaad1400a609f2cbff1231e391c056aa389e6506ab574d2"), looks := false }, kinds := [], alts := [], laidByText := true, laidKinds := [.data], laidTests := true, laidLooks := .later }
def ClocksWholeUptoCardSaid : Prop := Claim7.holds Tryd.pinned (.plain (OpenSpec.upto clocksWholeSpec)) clocksWholeUptoCard

/-- THE SECOND FORM's CARD OF 'sennitlaw06.ClocksGo'. -/
def clocksGoUptoCard : Claim7 := { stood := { row := clocksGoUptoRow, standIns := [], harness := (true, "416531b45f39d4cffcaad1400a609f2cbff1231e391c056aa389e6506ab574d2"), looks := false }, kinds := [], alts := [], laidByText := true, laidKinds := [.data], laidTests := true, laidLooks := .later }
def ClocksGoUptoCardSaid : Prop := Claim7.holds Tryd.pinned (.plain (OpenSpec.upto clocksGoSpec)) clocksGoUptoCard
end Rows
end Go.Proofs.YtonddecdeeikgaaDoor
