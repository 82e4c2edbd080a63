/-
  DERIVED. GIVEN WITH THE SEED: THE CARDS: each row of YtbfgdphfeifglaaDoorRows.lean that lists a variable, with what it lists TIED to the program's text (the seventh form; the later family's looks); each row that meets fmt, with fmt's text TOLD by the authors' own Lean function (tested against real Go, not proved from fmt's source: count such statements apart). THE CARD IS WHAT COUNTS. Prove the row's statement (the work); the ties are given (YtbfgdphfeifglaaDoorTie.lean); close each card by the builder's one call (the guide's Derived/Test/ToyasCard.lean, 'card_holds'). Laid BY PROGRAM, IN A SANDBOX (cutbox-door.mjs). By AI agents, Wed Nov 11 2026. No macro, syntax, notation, axiom, sorry.
-/
import Derived.Test.YtbfgdphfeifglaaDoorRows
import GoSem.ClaimSeven
namespace Go.Proofs.YtbfgdphfeifglaaDoor
namespace Rows

/-- THE TIED CARD OF 'sennitlaw11.SendersOut'. -/
def sendersOutCard : Claim7 := { stood := { row := sendersOutRow, standIns := [], harness := (true, "187cd0c2ca6aecf08f35d6de69ff6c6f5fec0f8249fc9e93da5d87bbc657441f"), looks := false }, kinds := [], alts := [], laidByText := true, laidKinds := [.data, .data], laidTests := true, laidLooks := .later }
def SendersOutCardSaid : Prop := Claim7.holds Tryd.pinned (.plain (OpenSpec.ofChange sendersOutSpec)) sendersOutCard

/-- THE TIED CARD OF 'sennitlaw11.SendersVoid'. -/
def sendersVoidCard : Claim7 := { stood := { row := sendersVoidRow, standIns := [], harness := (true, "187cd0c2ca6aecf08f35d6de69ff6c6f5fec0f8249fc9e93da5d87bbc657441f"), looks := false }, kinds := [], alts := [], laidByText := true, laidKinds := [.data, .data], laidTests := true, laidLooks := .later }
def SendersVoidCardSaid : Prop := Claim7.holds Tryd.pinned (.plain (OpenSpec.ofChange sendersVoidSpec)) sendersVoidCard

/-- THE TIED CARD OF 'sennitlaw11.SendersBoth'. -/
def sendersBothCard : Claim7 := { stood := { row := sendersBothRow, standIns := [], harness := (true, "187cd0c2ca6aecf08f35d6de69ff6c6f5fec0f8249fc9e93da5d87bbc657441f"), looks := false }, kinds := [], alts := [], laidByText := true, laidKinds := [.data, .data], laidTests := true, laidLooks := .later }
def SendersBothCardSaid : Prop := Claim7.holds Tryd.pinned (.plain (OpenSpec.ofChange sendersBothSpec)) sendersBothCard

/-- THE TIED CARD OF 'sennitlaw11.SendersUnlike'. -/
def sendersUnlikeCard : Claim7 := { stood := { row := sendersUnlikeRow, standIns := [], harness := (true, "187cd0c2ca6aecf08f35d6de69ff6c6f5fec0f8249fc9e93da5d87bbc657441f"), looks := false }, kinds := [], alts := [], laidByText := true, laidKinds := [.data, .data], laidTests := true, laidLooks := .later }
def SendersUnlikeCardSaid : Prop := Claim7.holds Tryd.pinned (.plain (OpenSpec.ofChange sendersUnlikeSpec)) sendersUnlikeCard

/-- THE SECOND FORM's CARD OF 'sennitlaw11.SendersOut'. -/
def sendersOutUptoCard : Claim7 := { stood := { row := sendersOutUptoRow, standIns := [], harness := (true, "187cd0c2ca6aecf08f35d6de69ff6c6f5fec0f8249fc9e93da5d87bbc657441f"), looks := false }, kinds := [], alts := [], laidByText := true, laidKinds := [.data, .data], laidTests := true, laidLooks := .later }
def SendersOutUptoCardSaid : Prop := Claim7.holds Tryd.pinned (.plain (OpenSpec.upto sendersOutSpec)) sendersOutUptoCard

/-- THE SECOND FORM's CARD OF 'sennitlaw11.SendersVoid'. -/
def sendersVoidUptoCard : Claim7 := { stood := { row := sendersVoidUptoRow, standIns := [], harness := (true, "187cd0c2ca6aecf08f35d6de69ff6c6f5fec0f8249fc9e93da5d87bbc657441f"), looks := false }, kinds := [], alts := [], laidByText := true, laidKinds := [.data, .data], laidTests := true, laidLooks := .later }
def SendersVoidUptoCardSaid : Prop := Claim7.holds Tryd.pinned (.plain (OpenSpec.upto sendersVoidSpec)) sendersVoidUptoCard

/-- THE SECOND FORM's CARD OF 'sennitlaw11.SendersBoth'. -/
def sendersBothUptoCard : Claim7 := { stood := { row := sendersBothUptoRow, standIns := [], harness := (true, "187cd0c2ca6aecf08f35d6de69ff6c6f5fec0f8249fc9e93da5d87bbc657441f"), looks := false }, kinds := [], alts := [], laidByText := true, laidKinds := [.data, .data], laidTests := true, laidLooks := .later }
def SendersBothUptoCardSaid : Prop := Claim7.holds Tryd.pinned (.plain (OpenSpec.upto sendersBothSpec)) sendersBothUptoCard

/-- THE SECOND FORM's CARD OF 'sennitlaw11.SendersUnlike'. -/
def sendersUnlikeUptoCard : Claim7 := { stood := { row := sendersUnlikeUptoRow, standIns := [], harness := (true, "187cd0c2ca6aecf08f35d6de69ff6c6f5fec0f8249fc9e93da5d87bbc657441f"), looks := false }, kinds := [], alts := [], laidByText := true, laidKinds := [.data, .data], laidTests := true, laidLooks := .later }
def SendersUnlikeUptoCardSaid : Prop := Claim7.holds Tryd.pinned (.plain (OpenSpec.upto sendersUnlikeSpec)) sendersUnlikeUptoCard
end Rows
end Go.Proofs.YtbfgdphfeifglaaDoor
