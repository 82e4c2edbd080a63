/-
  No cell of these rows narrows 'for every input' (looked for: loops, veiled, ifaces, maps, wideKeys, modest, calm, conditions, laid).
  DERIVED. THE GIVEN ROWS OF THIS SEAT. 5 by the template 'for every input the law returns true; each argument reads behind the call as it read before'; 0 by the template 'total and deterministic' (their statements: YtpjcbfapkjipjaaTotals.lean).
  GIVEN WITH THE SEED: the statements are not yours to turn. If you find one false, say at which input.
  Laid BY PROGRAM, IN A SANDBOX (cutbox-rows.mjs): the forced cells as the released guide's own fill.sh prints them over the translation 1fa37207069040b3… (all of the seat's roots in one cut). By AI agents, Wed Nov 11 2026. No macro, syntax, notation, axiom, sorry.
-/
import Derived.Test.YtpjcbfapkjipjaaChecked
import GoSem.Claim
import GoSem.ClaimJoined
import GoSem.ClaimMapViews
import Derived.JoinedTies
import Derived.KernelRfl
namespace Go.Proofs.Ytpjcbfapkjipjaa
/- THE CELL 'sum', in the pinned program and in every row, IS THE sha256 OF THE DUMP (.gsa) THAT YtpjcbfapkjipjaaProg.lean LOADS. Nothing in Lean hashes anything: it is a label: what it is worth is what the hold of that sum in a sandbox is worth. -/
noncomputable def Try.pinned : Pinned := { name := "ytpjcbfapkjipjaa", sum := "1fa37207069040b37ec36fb9f2a41e81ae67255d7d6ba122a5df6c60c038b40d", checked := Try.checked }
namespace Rows
def none {H : Type} : Left H := { results := [], args := [] }

/-- 'sennitlaw09.CatchesRun': WHATEVER THE INPUT: true; the input reads as it did. -/
def catchesRunSpec : ChangeSpec := { name := "catchesRun", fn := fun _ => fun
  | [d1, d2, d3] => { results := [.lit (.bool true)], args := [d1, d2, d3] }
  | _ => none }
def catchesRunRow : OpenClaim := { program := "ytpjcbfapkjipjaa", sum := "1fa37207069040b37ec36fb9f2a41e81ae67255d7d6ba122a5df6c60c038b40d", func := "sennit/sennitlaw09.CatchesRun", spec := "catchesRun", unfollowed := true, recurses := true, apart := false }
def CatchesRunSaid : Prop := catchesRunRow.holds Try.pinned (OpenSpec.ofChange catchesRunSpec)

/-- ITS FALSE NEIGHBOUR: 'it returns false'. Refute it at one input. -/
def catchesRunWrong : ChangeSpec := { name := "catchesRun", fn := fun _ => fun
  | [d1, d2, d3] => { results := [.lit (.bool false)], args := [d1, d2, d3] }
  | _ => none }
def CatchesRunWrongFalsely : Prop := catchesRunRow.holds Try.pinned (OpenSpec.ofChange catchesRunWrong)

/-- 'sennitlaw09.CatchesVoid': WHATEVER THE INPUT: true; the input reads as it did. -/
def catchesVoidSpec : ChangeSpec := { name := "catchesVoid", fn := fun _ => fun
  | [d1, d2] => { results := [.lit (.bool true)], args := [d1, d2] }
  | _ => none }
def catchesVoidRow : OpenClaim := { program := "ytpjcbfapkjipjaa", sum := "1fa37207069040b37ec36fb9f2a41e81ae67255d7d6ba122a5df6c60c038b40d", func := "sennit/sennitlaw09.CatchesVoid", spec := "catchesVoid", unfollowed := true, recurses := true, apart := false }
def CatchesVoidSaid : Prop := catchesVoidRow.holds Try.pinned (OpenSpec.ofChange catchesVoidSpec)

/-- ITS FALSE NEIGHBOUR: 'it returns false'. Refute it at one input. -/
def catchesVoidWrong : ChangeSpec := { name := "catchesVoid", fn := fun _ => fun
  | [d1, d2] => { results := [.lit (.bool false)], args := [d1, d2] }
  | _ => none }
def CatchesVoidWrongFalsely : Prop := catchesVoidRow.holds Try.pinned (OpenSpec.ofChange catchesVoidWrong)

/-- 'sennitlaw09.CatchesHigh': WHATEVER THE INPUT: true; the input reads as it did. -/
def catchesHighSpec : ChangeSpec := { name := "catchesHigh", fn := fun _ => fun
  | [d1, d2, d3] => { results := [.lit (.bool true)], args := [d1, d2, d3] }
  | _ => none }
def catchesHighRow : OpenClaim := { program := "ytpjcbfapkjipjaa", sum := "1fa37207069040b37ec36fb9f2a41e81ae67255d7d6ba122a5df6c60c038b40d", func := "sennit/sennitlaw09.CatchesHigh", spec := "catchesHigh", unfollowed := true, recurses := true, apart := false }
def CatchesHighSaid : Prop := catchesHighRow.holds Try.pinned (OpenSpec.ofChange catchesHighSpec)

/-- ITS FALSE NEIGHBOUR: 'it returns false'. Refute it at one input. -/
def catchesHighWrong : ChangeSpec := { name := "catchesHigh", fn := fun _ => fun
  | [d1, d2, d3] => { results := [.lit (.bool false)], args := [d1, d2, d3] }
  | _ => none }
def CatchesHighWrongFalsely : Prop := catchesHighRow.holds Try.pinned (OpenSpec.ofChange catchesHighWrong)

/-- 'sennitlaw09.CatchesChain': WHATEVER THE INPUT: true; the input reads as it did. -/
def catchesChainSpec : ChangeSpec := { name := "catchesChain", fn := fun _ => fun
  | [d1, d2, d3] => { results := [.lit (.bool true)], args := [d1, d2, d3] }
  | _ => none }
def catchesChainRow : OpenClaim := { program := "ytpjcbfapkjipjaa", sum := "1fa37207069040b37ec36fb9f2a41e81ae67255d7d6ba122a5df6c60c038b40d", func := "sennit/sennitlaw09.CatchesChain", spec := "catchesChain", unfollowed := true, recurses := true, apart := false }
def CatchesChainSaid : Prop := catchesChainRow.holds Try.pinned (OpenSpec.ofChange catchesChainSpec)

/-- ITS FALSE NEIGHBOUR: 'it returns false'. Refute it at one input. -/
def catchesChainWrong : ChangeSpec := { name := "catchesChain", fn := fun _ => fun
  | [d1, d2, d3] => { results := [.lit (.bool false)], args := [d1, d2, d3] }
  | _ => none }
def CatchesChainWrongFalsely : Prop := catchesChainRow.holds Try.pinned (OpenSpec.ofChange catchesChainWrong)

/-- 'sennitlaw09.CatchesCut': WHATEVER THE INPUT: true; the input reads as it did. -/
def catchesCutSpec : ChangeSpec := { name := "catchesCut", fn := fun _ => fun
  | [d1, d2, d3] => { results := [.lit (.bool true)], args := [d1, d2, d3] }
  | _ => none }
def catchesCutRow : OpenClaim := { program := "ytpjcbfapkjipjaa", sum := "1fa37207069040b37ec36fb9f2a41e81ae67255d7d6ba122a5df6c60c038b40d", func := "sennit/sennitlaw09.CatchesCut", spec := "catchesCut", unfollowed := true, recurses := true, apart := false }
def CatchesCutSaid : Prop := catchesCutRow.holds Try.pinned (OpenSpec.ofChange catchesCutSpec)

/-- ITS FALSE NEIGHBOUR: 'it returns false'. Refute it at one input. -/
def catchesCutWrong : ChangeSpec := { name := "catchesCut", fn := fun _ => fun
  | [d1, d2, d3] => { results := [.lit (.bool false)], args := [d1, d2, d3] }
  | _ => none }
def CatchesCutWrongFalsely : Prop := catchesCutRow.holds Try.pinned (OpenSpec.ofChange catchesCutWrong)

/- THE SECOND FORM. 'bulk': how many values and letters a reading holds, each counted each time it is reached (what is shared counts as often as it is met; a slice's spare places count too). A statement '..UptoSaid' is the law's where the arguments, and the package variables that the reading takes, are together of bulk at most 1048576: NARROWER than '..Said'. Prove '..Said' where nothing that the law and all that it calls make is longer than what came in: it says more and counts as full. Else prove '..UptoSaid'. A law counts once. -/
mutual
def uptoBulk {H : Type} : DataW H → Nat
  | .lit (.string bytes) => bytes.length + 1
  | .lit _ => 1
  | .nil => 1
  | .ptr d => uptoBulk d + 1
  | .slice elems spare => uptoBulkAll elems + uptoBulkAll spare + 1
  | .agg parts => uptoBulkAll parts + 1
  | .iface _ d => uptoBulk d + 1
  | .map entries => uptoBulkEntries entries + 1
  | .held _ => 1
def uptoBulkAll {H : Type} : List (DataW H) → Nat
  | [] => 0
  | d :: r => uptoBulk d + uptoBulkAll r
def uptoBulkEntries {H : Type} : List (Lit × DataW H) → Nat
  | [] => 0
  | x :: r => uptoBulkEntry x + uptoBulkEntries r
def uptoBulkEntry {H : Type} : Lit × DataW H → Nat
  | (.string bytes, d) => bytes.length + uptoBulk d + 1
  | (_, d) => uptoBulk d + 1
 end
def uptoSmall : (H : Type) → List (DataW H) → Bool := fun _ ds => decide (uptoBulkAll ds ≤ 1048576)
def OpenSpec.upto (s : _root_.Go.ChangeSpec) : _root_.Go.OpenSpec := { _root_.Go.OpenSpec.ofChange s with cond := some uptoSmall }

/-- 'sennitlaw09.CatchesRun', WHERE WHAT IT READS IS OF BULK AT MOST 1048576: true; the input reads as it did. -/
def catchesRunUptoRow : OpenClaim := { program := "ytpjcbfapkjipjaa", sum := "1fa37207069040b37ec36fb9f2a41e81ae67255d7d6ba122a5df6c60c038b40d", func := "sennit/sennitlaw09.CatchesRun", spec := "catchesRun", unfollowed := true, recurses := true, apart := false, narrowed := true }
def CatchesRunUptoSaid : Prop := catchesRunUptoRow.holds Try.pinned (OpenSpec.upto catchesRunSpec)

/-- 'sennitlaw09.CatchesVoid', WHERE WHAT IT READS IS OF BULK AT MOST 1048576: true; the input reads as it did. -/
def catchesVoidUptoRow : OpenClaim := { program := "ytpjcbfapkjipjaa", sum := "1fa37207069040b37ec36fb9f2a41e81ae67255d7d6ba122a5df6c60c038b40d", func := "sennit/sennitlaw09.CatchesVoid", spec := "catchesVoid", unfollowed := true, recurses := true, apart := false, narrowed := true }
def CatchesVoidUptoSaid : Prop := catchesVoidUptoRow.holds Try.pinned (OpenSpec.upto catchesVoidSpec)

/-- 'sennitlaw09.CatchesHigh', WHERE WHAT IT READS IS OF BULK AT MOST 1048576: true; the input reads as it did. -/
def catchesHighUptoRow : OpenClaim := { program := "ytpjcbfapkjipjaa", sum := "1fa37207069040b37ec36fb9f2a41e81ae67255d7d6ba122a5df6c60c038b40d", func := "sennit/sennitlaw09.CatchesHigh", spec := "catchesHigh", unfollowed := true, recurses := true, apart := false, narrowed := true }
def CatchesHighUptoSaid : Prop := catchesHighUptoRow.holds Try.pinned (OpenSpec.upto catchesHighSpec)

/-- 'sennitlaw09.CatchesChain', WHERE WHAT IT READS IS OF BULK AT MOST 1048576: true; the input reads as it did. -/
def catchesChainUptoRow : OpenClaim := { program := "ytpjcbfapkjipjaa", sum := "1fa37207069040b37ec36fb9f2a41e81ae67255d7d6ba122a5df6c60c038b40d", func := "sennit/sennitlaw09.CatchesChain", spec := "catchesChain", unfollowed := true, recurses := true, apart := false, narrowed := true }
def CatchesChainUptoSaid : Prop := catchesChainUptoRow.holds Try.pinned (OpenSpec.upto catchesChainSpec)

/-- 'sennitlaw09.CatchesCut', WHERE WHAT IT READS IS OF BULK AT MOST 1048576: true; the input reads as it did. -/
def catchesCutUptoRow : OpenClaim := { program := "ytpjcbfapkjipjaa", sum := "1fa37207069040b37ec36fb9f2a41e81ae67255d7d6ba122a5df6c60c038b40d", func := "sennit/sennitlaw09.CatchesCut", spec := "catchesCut", unfollowed := true, recurses := true, apart := false, narrowed := true }
def CatchesCutUptoSaid : Prop := catchesCutUptoRow.holds Try.pinned (OpenSpec.upto catchesCutSpec)

end Rows
end Go.Proofs.Ytpjcbfapkjipjaa
