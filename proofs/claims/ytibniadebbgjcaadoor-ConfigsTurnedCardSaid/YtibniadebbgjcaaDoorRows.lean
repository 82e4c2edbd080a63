/-
  NARROWER THAN 'FOR EVERY INPUT', by the rows' own cells (each row's printed sentence says how): ConfigsNew: laid · ConfigsAsk: laid · ConfigsVoid: laid · ConfigsHalves: laid · ConfigsTurned: laid · ConfigsEdges: laid.
  DERIVED. THE GIVEN ROWS OF THIS SEAT. 6 by the template 'for every input the law returns true; each argument reads behind the call as it read before'; 0 by the template 'total and deterministic' (their statements: YtibniadebbgjcaaDoorTotals.lean).
  GIVEN WITH THE SEED: the statements are not yours to turn. If you find one false, say at which input.
  Laid BY PROGRAM, IN A SANDBOX (cutbox-rows.mjs): the forced cells as the released guide's own fill.sh prints them over the translation e94a51c1df81097b… (all of the seat's roots in one cut). By AI agents, Wed Nov 11 2026. No macro, syntax, notation, axiom, sorry.
-/
import Derived.Test.YtibniadebbgjcaaDoorChecked
import GoSem.Claim
import GoSem.ClaimJoined
import GoSem.ClaimMapViews
import Derived.JoinedTies
import Derived.KernelRfl
namespace Go.Proofs.YtibniadebbgjcaaDoor
/- THE CELL 'sum', in the pinned program and in every row, IS THE sha256 OF THE DUMP (.gsa) THAT YtibniadebbgjcaaDoorProg.lean LOADS. Nothing in Lean hashes anything: it is a label: what it is worth is what the hold of that sum in a sandbox is worth. -/
noncomputable def Tryd.pinned : Pinned := { name := "ytibniadebbgjcaadoor", sum := "e94a51c1df81097b4e2f086449634f3977783ec71fe0f9922847769e3c951b09", checked := Tryd.checked }
namespace Rows
def none {H : Type} : Left H := { results := [], args := [] }

/- WHAT THE LISTED PACKAGE-LEVEL VARIABLES READ AS WHEN THE CALL BEGINS. Each datum BY PROGRAM (the guide's laid-datum.mjs) off the statement by which the dump's own 'gosem.cut.vars' lays the variable. In a bare row this is a premise. The card (YtibniadebbgjcaaDoorCards.lean) ties it to the program's text. -/
def laid_sennit_rings_ways {H : Type} : DataW H := .agg [.agg [.lit (.int .i64 1), .lit (.int .i64 0)], .agg [.lit (.int .i64 (-1)), .lit (.int .i64 1)]]

/-- 'sennitlaw04.ConfigsNew': WHATEVER THE INPUT: true; the input reads as it did. -/
def configsNewSpec : ChangeSpec := { name := "configsNew", fn := fun _ => fun
  | [d] => { results := [.lit (.bool true)], args := [d] }
  | _ => none }
def configsNewRow : OpenClaim := { program := "ytibniadebbgjcaadoor", sum := "e94a51c1df81097b4e2f086449634f3977783ec71fe0f9922847769e3c951b09", func := "sennit/sennitlaw04.ConfigsNew", spec := "configsNew", unfollowed := true, recurses := true, named := ["sennit/rings.ways"], apart := false, laid := [("sennit/rings.ways", laid_sennit_rings_ways)] }
def ConfigsNewSaid : Prop := configsNewRow.holds Tryd.pinned (OpenSpec.ofChange configsNewSpec)

/-- ITS FALSE NEIGHBOUR: 'it returns false'. Refute it at one input. -/
def configsNewWrong : ChangeSpec := { name := "configsNew", fn := fun _ => fun
  | [d] => { results := [.lit (.bool false)], args := [d] }
  | _ => none }
def ConfigsNewWrongFalsely : Prop := configsNewRow.holds Tryd.pinned (OpenSpec.ofChange configsNewWrong)

/-- 'sennitlaw04.ConfigsAsk': WHATEVER THE INPUT: true; the input reads as it did. -/
def configsAskSpec : ChangeSpec := { name := "configsAsk", fn := fun _ => fun
  | [d1, d2, d3] => { results := [.lit (.bool true)], args := [d1, d2, d3] }
  | _ => none }
def configsAskRow : OpenClaim := { program := "ytibniadebbgjcaadoor", sum := "e94a51c1df81097b4e2f086449634f3977783ec71fe0f9922847769e3c951b09", func := "sennit/sennitlaw04.ConfigsAsk", spec := "configsAsk", unfollowed := true, recurses := true, named := ["sennit/rings.ways"], apart := false, laid := [("sennit/rings.ways", laid_sennit_rings_ways)] }
def ConfigsAskSaid : Prop := configsAskRow.holds Tryd.pinned (OpenSpec.ofChange configsAskSpec)

/-- ITS FALSE NEIGHBOUR: 'it returns false'. Refute it at one input. -/
def configsAskWrong : ChangeSpec := { name := "configsAsk", fn := fun _ => fun
  | [d1, d2, d3] => { results := [.lit (.bool false)], args := [d1, d2, d3] }
  | _ => none }
def ConfigsAskWrongFalsely : Prop := configsAskRow.holds Tryd.pinned (OpenSpec.ofChange configsAskWrong)

/-- 'sennitlaw04.ConfigsVoid': WHATEVER THE INPUT: true; the input reads as it did. -/
def configsVoidSpec : ChangeSpec := { name := "configsVoid", fn := fun _ => fun
  | [d1, d2] => { results := [.lit (.bool true)], args := [d1, d2] }
  | _ => none }
def configsVoidRow : OpenClaim := { program := "ytibniadebbgjcaadoor", sum := "e94a51c1df81097b4e2f086449634f3977783ec71fe0f9922847769e3c951b09", func := "sennit/sennitlaw04.ConfigsVoid", spec := "configsVoid", unfollowed := true, recurses := true, named := ["sennit/rings.ways"], apart := false, laid := [("sennit/rings.ways", laid_sennit_rings_ways)] }
def ConfigsVoidSaid : Prop := configsVoidRow.holds Tryd.pinned (OpenSpec.ofChange configsVoidSpec)

/-- ITS FALSE NEIGHBOUR: 'it returns false'. Refute it at one input. -/
def configsVoidWrong : ChangeSpec := { name := "configsVoid", fn := fun _ => fun
  | [d1, d2] => { results := [.lit (.bool false)], args := [d1, d2] }
  | _ => none }
def ConfigsVoidWrongFalsely : Prop := configsVoidRow.holds Tryd.pinned (OpenSpec.ofChange configsVoidWrong)

/-- 'sennitlaw04.ConfigsHalves': WHATEVER THE INPUT: true; the input reads as it did. -/
def configsHalvesSpec : ChangeSpec := { name := "configsHalves", fn := fun _ => fun
  | [d1, d2] => { results := [.lit (.bool true)], args := [d1, d2] }
  | _ => none }
def configsHalvesRow : OpenClaim := { program := "ytibniadebbgjcaadoor", sum := "e94a51c1df81097b4e2f086449634f3977783ec71fe0f9922847769e3c951b09", func := "sennit/sennitlaw04.ConfigsHalves", spec := "configsHalves", unfollowed := true, recurses := true, named := ["sennit/rings.ways"], apart := false, laid := [("sennit/rings.ways", laid_sennit_rings_ways)] }
def ConfigsHalvesSaid : Prop := configsHalvesRow.holds Tryd.pinned (OpenSpec.ofChange configsHalvesSpec)

/-- ITS FALSE NEIGHBOUR: 'it returns false'. Refute it at one input. -/
def configsHalvesWrong : ChangeSpec := { name := "configsHalves", fn := fun _ => fun
  | [d1, d2] => { results := [.lit (.bool false)], args := [d1, d2] }
  | _ => none }
def ConfigsHalvesWrongFalsely : Prop := configsHalvesRow.holds Tryd.pinned (OpenSpec.ofChange configsHalvesWrong)

/-- 'sennitlaw04.ConfigsTurned': WHATEVER THE INPUT: true; the input reads as it did. -/
def configsTurnedSpec : ChangeSpec := { name := "configsTurned", fn := fun _ => fun
  | [d1, d2] => { results := [.lit (.bool true)], args := [d1, d2] }
  | _ => none }
def configsTurnedRow : OpenClaim := { program := "ytibniadebbgjcaadoor", sum := "e94a51c1df81097b4e2f086449634f3977783ec71fe0f9922847769e3c951b09", func := "sennit/sennitlaw04.ConfigsTurned", spec := "configsTurned", unfollowed := true, recurses := true, named := ["sennit/rings.ways"], apart := false, laid := [("sennit/rings.ways", laid_sennit_rings_ways)] }
def ConfigsTurnedSaid : Prop := configsTurnedRow.holds Tryd.pinned (OpenSpec.ofChange configsTurnedSpec)

/-- ITS FALSE NEIGHBOUR: 'it returns false'. Refute it at one input. -/
def configsTurnedWrong : ChangeSpec := { name := "configsTurned", fn := fun _ => fun
  | [d1, d2] => { results := [.lit (.bool false)], args := [d1, d2] }
  | _ => none }
def ConfigsTurnedWrongFalsely : Prop := configsTurnedRow.holds Tryd.pinned (OpenSpec.ofChange configsTurnedWrong)

/-- 'sennitlaw04.ConfigsEdges': WHATEVER THE INPUT: true; the input reads as it did. -/
def configsEdgesSpec : ChangeSpec := { name := "configsEdges", fn := fun _ => fun
  | [d1, d2] => { results := [.lit (.bool true)], args := [d1, d2] }
  | _ => none }
def configsEdgesRow : OpenClaim := { program := "ytibniadebbgjcaadoor", sum := "e94a51c1df81097b4e2f086449634f3977783ec71fe0f9922847769e3c951b09", func := "sennit/sennitlaw04.ConfigsEdges", spec := "configsEdges", unfollowed := true, recurses := true, named := ["sennit/rings.ways"], apart := false, laid := [("sennit/rings.ways", laid_sennit_rings_ways)] }
def ConfigsEdgesSaid : Prop := configsEdgesRow.holds Tryd.pinned (OpenSpec.ofChange configsEdgesSpec)

/-- ITS FALSE NEIGHBOUR: 'it returns false'. Refute it at one input. -/
def configsEdgesWrong : ChangeSpec := { name := "configsEdges", fn := fun _ => fun
  | [d1, d2] => { results := [.lit (.bool false)], args := [d1, d2] }
  | _ => none }
def ConfigsEdgesWrongFalsely : Prop := configsEdgesRow.holds Tryd.pinned (OpenSpec.ofChange configsEdgesWrong)

/- THE SECOND FORM. 'bulk': how many values and letters a reading holds, each counted each time it is reached (what is shared counts as often as it is met; a slice's spare places count too). A statement '..UptoSaid' is the law's where the arguments, and the package variables that the reading takes, are together of bulk at most 1048576: NARROWER than '..Said'. Prove '..Said' where nothing that the law and all that it calls make is longer than what came in: it says more and counts as full. Else prove '..UptoSaid'. A law counts once. -/
mutual
def uptoBulk {H : Type} : DataW H → Nat
  | .lit (.string bytes) => bytes.length + 1
  | .lit _ => 1
  | .nil => 1
  | .ptr d => uptoBulk d + 1
  | .slice elems spare => uptoBulkAll elems + uptoBulkAll spare + 1
  | .agg parts => uptoBulkAll parts + 1
  | .iface _ d => uptoBulk d + 1
  | .map entries => uptoBulkEntries entries + 1
  | .held _ => 1
def uptoBulkAll {H : Type} : List (DataW H) → Nat
  | [] => 0
  | d :: r => uptoBulk d + uptoBulkAll r
def uptoBulkEntries {H : Type} : List (Lit × DataW H) → Nat
  | [] => 0
  | x :: r => uptoBulkEntry x + uptoBulkEntries r
def uptoBulkEntry {H : Type} : Lit × DataW H → Nat
  | (.string bytes, d) => bytes.length + uptoBulk d + 1
  | (_, d) => uptoBulk d + 1
 end
def uptoSmall : (H : Type) → List (DataW H) → Bool := fun _ ds => decide (uptoBulkAll ds ≤ 1048576)
def OpenSpec.upto (s : _root_.Go.ChangeSpec) : _root_.Go.OpenSpec := { _root_.Go.OpenSpec.ofChange s with cond := some uptoSmall }

/-- 'sennitlaw04.ConfigsNew', WHERE WHAT IT READS IS OF BULK AT MOST 1048576: true; the input reads as it did. -/
def configsNewUptoRow : OpenClaim := { program := "ytibniadebbgjcaadoor", sum := "e94a51c1df81097b4e2f086449634f3977783ec71fe0f9922847769e3c951b09", func := "sennit/sennitlaw04.ConfigsNew", spec := "configsNew", unfollowed := true, recurses := true, named := ["sennit/rings.ways"], apart := false, laid := [("sennit/rings.ways", laid_sennit_rings_ways)], narrowed := true }
def ConfigsNewUptoSaid : Prop := configsNewUptoRow.holds Tryd.pinned (OpenSpec.upto configsNewSpec)

/-- 'sennitlaw04.ConfigsAsk', WHERE WHAT IT READS IS OF BULK AT MOST 1048576: true; the input reads as it did. -/
def configsAskUptoRow : OpenClaim := { program := "ytibniadebbgjcaadoor", sum := "e94a51c1df81097b4e2f086449634f3977783ec71fe0f9922847769e3c951b09", func := "sennit/sennitlaw04.ConfigsAsk", spec := "configsAsk", unfollowed := true, recurses := true, named := ["sennit/rings.ways"], apart := false, laid := [("sennit/rings.ways", laid_sennit_rings_ways)], narrowed := true }
def ConfigsAskUptoSaid : Prop := configsAskUptoRow.holds Tryd.pinned (OpenSpec.upto configsAskSpec)

/-- 'sennitlaw04.ConfigsVoid', WHERE WHAT IT READS IS OF BULK AT MOST 1048576: true; the input reads as it did. -/
def configsVoidUptoRow : OpenClaim := { program := "ytibniadebbgjcaadoor", sum := "e94a51c1df81097b4e2f086449634f3977783ec71fe0f9922847769e3c951b09", func := "sennit/sennitlaw04.ConfigsVoid", spec := "configsVoid", unfollowed := true, recurses := true, named := ["sennit/rings.ways"], apart := false, laid := [("sennit/rings.ways", laid_sennit_rings_ways)], narrowed := true }
def ConfigsVoidUptoSaid : Prop := configsVoidUptoRow.holds Tryd.pinned (OpenSpec.upto configsVoidSpec)

/-- 'sennitlaw04.ConfigsHalves', WHERE WHAT IT READS IS OF BULK AT MOST 1048576: true; the input reads as it did. -/
def configsHalvesUptoRow : OpenClaim := { program := "ytibniadebbgjcaadoor", sum := "e94a51c1df81097b4e2f086449634f3977783ec71fe0f9922847769e3c951b09", func := "sennit/sennitlaw04.ConfigsHalves", spec := "configsHalves", unfollowed := true, recurses := true, named := ["sennit/rings.ways"], apart := false, laid := [("sennit/rings.ways", laid_sennit_rings_ways)], narrowed := true }
def ConfigsHalvesUptoSaid : Prop := configsHalvesUptoRow.holds Tryd.pinned (OpenSpec.upto configsHalvesSpec)

/-- 'sennitlaw04.ConfigsTurned', WHERE WHAT IT READS IS OF BULK AT MOST 1048576: true; the input reads as it did. -/
def configsTurnedUptoRow : OpenClaim := { program := "ytibniadebbgjcaadoor", sum := "e94a51c1df81097b4e2f086449634f3977783ec71fe0f9922847769e3c951b09", func := "sennit/sennitlaw04.ConfigsTurned", spec := "configsTurned", unfollowed := true, recurses := true, named := ["sennit/rings.ways"], apart := false, laid := [("sennit/rings.ways", laid_sennit_rings_ways)], narrowed := true }
def ConfigsTurnedUptoSaid : Prop := configsTurnedUptoRow.holds Tryd.pinned (OpenSpec.upto configsTurnedSpec)

/-- 'sennitlaw04.ConfigsEdges', WHERE WHAT IT READS IS OF BULK AT MOST 1048576: true; the input reads as it did. -/
def configsEdgesUptoRow : OpenClaim := { program := "ytibniadebbgjcaadoor", sum := "e94a51c1df81097b4e2f086449634f3977783ec71fe0f9922847769e3c951b09", func := "sennit/sennitlaw04.ConfigsEdges", spec := "configsEdges", unfollowed := true, recurses := true, named := ["sennit/rings.ways"], apart := false, laid := [("sennit/rings.ways", laid_sennit_rings_ways)], narrowed := true }
def ConfigsEdgesUptoSaid : Prop := configsEdgesUptoRow.holds Tryd.pinned (OpenSpec.upto configsEdgesSpec)

end Rows
end Go.Proofs.YtibniadebbgjcaaDoor
