/-
  DERIVED. GIVEN WITH THE SEED: THE CARDS: each row of YtajkpbmjgncbbaaDoorRows.lean that lists a variable, with what it lists TIED to the program's text (the seventh form; the later family's looks); each row that meets fmt, with fmt's text TOLD by the authors' own Lean function (tested against real Go, not proved from fmt's source: count such statements apart). THE CARD IS WHAT COUNTS. Prove the row's statement (the work); the ties are given (YtajkpbmjgncbbaaDoorTie.lean); close each card by the builder's one call (the guide's Derived/Test/ToyasCard.lean, 'card_holds'). Laid BY PROGRAM, IN A SANDBOX (cutbox-door.mjs). By AI agents, Wed Nov 11 2026. No macro, syntax, notation, axiom, sorry.
-/
import Derived.Test.YtajkpbmjgncbbaaDoorRows
import GoSem.ClaimSeven
namespace Go.Proofs.YtajkpbmjgncbbaaDoor
namespace Rows

/-- THE TIED CARD OF 'sennitlaw10.WindowsOf'. -/
def windowsOfCard : Claim7 := { stood := { row := windowsOfRow, standIns := [], harness := (true, "360bee452ae2acf5d4cba7540aaa454a7440dc99ce202d6d6be101d5ee940f4b"), looks := false }, kinds := [], alts := [], laidByText := true, laidKinds := [.data, .data], laidTests := true, laidLooks := .later }
def WindowsOfCardSaid : Prop := Claim7.holds Tryd.pinned (.plain (OpenSpec.ofChange windowsOfSpec)) windowsOfCard

/-- THE TIED CARD OF 'sennitlaw10.WindowsVoid'. -/
def windowsVoidCard : Claim7 := { stood := { row := windowsVoidRow, standIns := [], harness := (true, "360bee452ae2acf5d4cba7540aaa454a7440dc99ce202d6d6be101d5ee940f4b"), looks := false }, kinds := [], alts := [], laidByText := true, laidKinds := [.data, .data], laidTests := true, laidLooks := .later }
def WindowsVoidCardSaid : Prop := Claim7.holds Tryd.pinned (.plain (OpenSpec.ofChange windowsVoidSpec)) windowsVoidCard

/-- THE TIED CARD OF 'sennitlaw10.WindowsMeet'. -/
def windowsMeetCard : Claim7 := { stood := { row := windowsMeetRow, standIns := [], harness := (true, "360bee452ae2acf5d4cba7540aaa454a7440dc99ce202d6d6be101d5ee940f4b"), looks := false }, kinds := [], alts := [], laidByText := true, laidKinds := [.data, .data], laidTests := true, laidLooks := .later }
def WindowsMeetCardSaid : Prop := Claim7.holds Tryd.pinned (.plain (OpenSpec.ofChange windowsMeetSpec)) windowsMeetCard

/-- THE TIED CARD OF 'sennitlaw10.WindowsOver'. -/
def windowsOverCard : Claim7 := { stood := { row := windowsOverRow, standIns := [], harness := (true, "360bee452ae2acf5d4cba7540aaa454a7440dc99ce202d6d6be101d5ee940f4b"), looks := false }, kinds := [], alts := [], laidByText := true, laidKinds := [.data, .data], laidTests := true, laidLooks := .later }
def WindowsOverCardSaid : Prop := Claim7.holds Tryd.pinned (.plain (OpenSpec.ofChange windowsOverSpec)) windowsOverCard

/-- THE TIED CARD OF 'sennitlaw10.WindowsGuards'. -/
def windowsGuardsCard : Claim7 := { stood := { row := windowsGuardsRow, standIns := [], harness := (true, "360bee452ae2acf5d4cba7540aaa454a7440dc99ce202d6d6be101d5ee940f4b"), looks := false }, kinds := [], alts := [], laidByText := true, laidKinds := [.data, .data], laidTests := true, laidLooks := .later }
def WindowsGuardsCardSaid : Prop := Claim7.holds Tryd.pinned (.plain (OpenSpec.ofChange windowsGuardsSpec)) windowsGuardsCard

/-- THE SECOND FORM's CARD OF 'sennitlaw10.WindowsOf'. -/
def windowsOfUptoCard : Claim7 := { stood := { row := windowsOfUptoRow, standIns := [], harness := (true, "360bee452ae2acf5d4cba7540aaa454a7440dc99ce202d6d6be101d5ee940f4b"), looks := false }, kinds := [], alts := [], laidByText := true, laidKinds := [.data, .data], laidTests := true, laidLooks := .later }
def WindowsOfUptoCardSaid : Prop := Claim7.holds Tryd.pinned (.plain (OpenSpec.upto windowsOfSpec)) windowsOfUptoCard

/-- THE SECOND FORM's CARD OF 'sennitlaw10.WindowsVoid'. -/
def windowsVoidUptoCard : Claim7 := { stood := { row := windowsVoidUptoRow, standIns := [], harness := (true, "360bee452ae2acf5d4cba7540aaa454a7440dc99ce202d6d6be101d5ee940f4b"), looks := false }, kinds := [], alts := [], laidByText := true, laidKinds := [.data, .data], laidTests := true, laidLooks := .later }
def WindowsVoidUptoCardSaid : Prop := Claim7.holds Tryd.pinned (.plain (OpenSpec.upto windowsVoidSpec)) windowsVoidUptoCard

/-- THE SECOND FORM's CARD OF 'sennitlaw10.WindowsMeet'. -/
def windowsMeetUptoCard : Claim7 := { stood := { row := windowsMeetUptoRow, standIns := [], harness := (true, "360bee452ae2acf5d4cba7540aaa454a7440dc99ce202d6d6be101d5ee940f4b"), looks := false }, kinds := [], alts := [], laidByText := true, laidKinds := [.data, .data], laidTests := true, laidLooks := .later }
def WindowsMeetUptoCardSaid : Prop := Claim7.holds Tryd.pinned (.plain (OpenSpec.upto windowsMeetSpec)) windowsMeetUptoCard

/-- THE SECOND FORM's CARD OF 'sennitlaw10.WindowsOver'. -/
def windowsOverUptoCard : Claim7 := { stood := { row := windowsOverUptoRow, standIns := [], harness := (true, "360bee452ae2acf5d4cba7540aaa454a7440dc99ce202d6d6be101d5ee940f4b"), looks := false }, kinds := [], alts := [], laidByText := true, laidKinds := [.data, .data], laidTests := true, laidLooks := .later }
def WindowsOverUptoCardSaid : Prop := Claim7.holds Tryd.pinned (.plain (OpenSpec.upto windowsOverSpec)) windowsOverUptoCard

/-- THE SECOND FORM's CARD OF 'sennitlaw10.WindowsGuards'. -/
def windowsGuardsUptoCard : Claim7 := { stood := { row := windowsGuardsUptoRow, standIns := [], harness := (true, "360bee452ae2acf5d4cba7540aaa454a7440dc99ce202d6d6be101d5ee940f4b"), looks := false }, kinds := [], alts := [], laidByText := true, laidKinds := [.data, .data], laidTests := true, laidLooks := .later }
def WindowsGuardsUptoCardSaid : Prop := Claim7.holds Tryd.pinned (.plain (OpenSpec.upto windowsGuardsSpec)) windowsGuardsUptoCard
end Rows
end Go.Proofs.YtajkpbmjgncbbaaDoor
