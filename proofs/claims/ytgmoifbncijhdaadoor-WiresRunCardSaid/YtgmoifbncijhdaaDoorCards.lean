/-
  DERIVED. GIVEN WITH THE SEED: THE CARDS: each row of YtgmoifbncijhdaaDoorRows.lean that lists a variable, with what it lists TIED to the program's text (the seventh form; the later family's looks); each row that meets fmt, with fmt's text TOLD by the authors' own Lean function (tested against real Go, not proved from fmt's source: count such statements apart). THE CARD IS WHAT COUNTS. Prove the row's statement (the work); the ties are given (YtgmoifbncijhdaaDoorTie.lean); close each card by the builder's one call (the guide's Derived/Test/ToyasCard.lean, 'card_holds'). Laid BY PROGRAM, IN A SANDBOX (cutbox-door.mjs). By AI agents, Wed Nov 11 2026. No macro, syntax, notation, axiom, sorry.
-/
import Derived.Test.YtgmoifbncijhdaaDoorRows
import GoSem.ClaimSeven
namespace Go.Proofs.YtgmoifbncijhdaaDoor
namespace Rows

/-- THE TIED CARD OF 'sennitlaw08.WiresRun'. -/
def wiresRunCard : Claim7 := { stood := { row := wiresRunRow, standIns := [], harness := (true, "d02c69723f9e6dc34fe78eea5b48bb300877d53a4884061332c2302bb67e5023"), looks := false }, kinds := [], alts := [], laidByText := true, laidKinds := [.data], laidTests := true, laidLooks := .later }
def WiresRunCardSaid : Prop := Claim7.holds Tryd.pinned (.plain (OpenSpec.ofChange wiresRunSpec)) wiresRunCard

/-- THE TIED CARD OF 'sennitlaw08.WiresVoid'. -/
def wiresVoidCard : Claim7 := { stood := { row := wiresVoidRow, standIns := [], harness := (true, "d02c69723f9e6dc34fe78eea5b48bb300877d53a4884061332c2302bb67e5023"), looks := false }, kinds := [], alts := [], laidByText := true, laidKinds := [.data], laidTests := true, laidLooks := .later }
def WiresVoidCardSaid : Prop := Claim7.holds Tryd.pinned (.plain (OpenSpec.ofChange wiresVoidSpec)) wiresVoidCard

/-- THE TIED CARD OF 'sennitlaw08.WiresAll'. -/
def wiresAllCard : Claim7 := { stood := { row := wiresAllRow, standIns := [], harness := (true, "d02c69723f9e6dc34fe78eea5b48bb300877d53a4884061332c2302bb67e5023"), looks := false }, kinds := [], alts := [], laidByText := true, laidKinds := [.data], laidTests := true, laidLooks := .later }
def WiresAllCardSaid : Prop := Claim7.holds Tryd.pinned (.plain (OpenSpec.ofChange wiresAllSpec)) wiresAllCard

/-- THE TIED CARD OF 'sennitlaw08.WiresTrack'. -/
def wiresTrackCard : Claim7 := { stood := { row := wiresTrackRow, standIns := [], harness := (true, "d02c69723f9e6dc34fe78eea5b48bb300877d53a4884061332c2302bb67e5023"), looks := false }, kinds := [], alts := [], laidByText := true, laidKinds := [.data], laidTests := true, laidLooks := .later }
def WiresTrackCardSaid : Prop := Claim7.holds Tryd.pinned (.plain (OpenSpec.ofChange wiresTrackSpec)) wiresTrackCard

/-- THE TIED CARD OF 'sennitlaw08.WiresApart'. -/
def wiresApartCard : Claim7 := { stood := { row := wiresApartRow, standIns := [], harness := (true, "d02c69723f9e6dc34fe78eea5b48bb300877d53a4884061332c2302bb67e5023"), looks := false }, kinds := [], alts := [], laidByText := true, laidKinds := [.data], laidTests := true, laidLooks := .later }
def WiresApartCardSaid : Prop := Claim7.holds Tryd.pinned (.plain (OpenSpec.ofChange wiresApartSpec)) wiresApartCard

/-- THE SECOND FORM's CARD OF 'sennitlaw08.WiresRun'. -/
def wiresRunUptoCard : Claim7 := { stood := { row := wiresRunUptoRow, standIns := [], harness := (true, "d02c69723f9e6dc34fe78eea5b48bb300877d53a4884061332c2302bb67e5023"), looks := false }, kinds := [], alts := [], laidByText := true, laidKinds := [.data], laidTests := true, laidLooks := .later }
def WiresRunUptoCardSaid : Prop := Claim7.holds Tryd.pinned (.plain (OpenSpec.upto wiresRunSpec)) wiresRunUptoCard

/-- THE SECOND FORM's CARD OF 'sennitlaw08.WiresVoid'. -/
def wiresVoidUptoCard : Claim7 := { stood := { row := wiresVoidUptoRow, standIns := [], harness := (true, "d02c69723f9e6dc34fe78eea5b48bb300877d53a4884061332c2302bb67e5023"), looks := false }, kinds := [], alts := [], laidByText := true, laidKinds := [.data], laidTests := true, laidLooks := .later }
def WiresVoidUptoCardSaid : Prop := Claim7.holds Tryd.pinned (.plain (OpenSpec.upto wiresVoidSpec)) wiresVoidUptoCard

/-- THE SECOND FORM's CARD OF 'sennitlaw08.WiresAll'. -/
def wiresAllUptoCard : Claim7 := { stood := { row := wiresAllUptoRow, standIns := [], harness := (true, "d02c69723f9e6dc34fe78eea5b48bb300877d53a4884061332c2302bb67e5023"), looks := false }, kinds := [], alts := [], laidByText := true, laidKinds := [.data], laidTests := true, laidLooks := .later }
def WiresAllUptoCardSaid : Prop := Claim7.holds Tryd.pinned (.plain (OpenSpec.upto wiresAllSpec)) wiresAllUptoCard

/-- THE SECOND FORM's CARD OF 'sennitlaw08.WiresTrack'. -/
def wiresTrackUptoCard : Claim7 := { stood := { row := wiresTrackUptoRow, standIns := [], harness := (true, "d02c69723f9e6dc34fe78eea5b48bb300877d53a4884061332c2302bb67e5023"), looks := false }, kinds := [], alts := [], laidByText := true, laidKinds := [.data], laidTests := true, laidLooks := .later }
def WiresTrackUptoCardSaid : Prop := Claim7.holds Tryd.pinned (.plain (OpenSpec.upto wiresTrackSpec)) wiresTrackUptoCard

/-- THE SECOND FORM's CARD OF 'sennitlaw08.WiresApart'. -/
def wiresApartUptoCard : Claim7 := { stood := { row := wiresApartUptoRow, standIns := [], harness := (true, "d02c69723f9e6dc34fe78eea5b48bb300877d53a4884061332c2302bb67e5023"), looks := false }, kinds := [], alts := [], laidByText := true, laidKinds := [.data], laidTests := true, laidLooks := .later }
def WiresApartUptoCardSaid : Prop := Claim7.holds Tryd.pinned (.plain (OpenSpec.upto wiresApartSpec)) wiresApartUptoCard
end Rows
end Go.Proofs.YtgmoifbncijhdaaDoor
