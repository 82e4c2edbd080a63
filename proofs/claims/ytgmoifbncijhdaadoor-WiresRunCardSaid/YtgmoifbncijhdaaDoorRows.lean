/-
  NARROWER THAN 'FOR EVERY INPUT', by the rows' own cells (each row's printed sentence says how): WiresRun: laid · WiresVoid: laid · WiresAll: laid · WiresTrack: laid · WiresApart: laid.
  DERIVED. THE GIVEN ROWS OF THIS SEAT. 5 by the template 'for every input the law returns true; each argument reads behind the call as it read before'; 0 by the template 'total and deterministic' (their statements: YtgmoifbncijhdaaDoorTotals.lean).
  GIVEN WITH THE SEED: the statements are not yours to turn. If you find one false, say at which input.
  Laid BY PROGRAM, IN A SANDBOX (cutbox-rows.mjs): the forced cells as the released guide's own fill.sh prints them over the translation 278c1149870e2824… (all of the seat's roots in one cut). By AI agents, Wed Nov 11 2026. No macro, syntax, notation, axiom, sorry.
-/
import Derived.Test.YtgmoifbncijhdaaDoorChecked
import GoSem.Claim
import GoSem.ClaimJoined
import GoSem.ClaimMapViews
import Derived.JoinedTies
import Derived.KernelRfl
namespace Go.Proofs.YtgmoifbncijhdaaDoor
/- THE CELL 'sum', in the pinned program and in every row, IS THE sha256 OF THE DUMP (.gsa) THAT YtgmoifbncijhdaaDoorProg.lean LOADS. Nothing in Lean hashes anything: it is a label: what it is worth is what the hold of that sum in a sandbox is worth. -/
noncomputable def Tryd.pinned : Pinned := { name := "ytgmoifbncijhdaadoor", sum := "278c1149870e2824d98bf55d2138379fab3f90cf14e325fc39b24f9e55be0f7b", checked := Tryd.checked }
namespace Rows
def none {H : Type} : Left H := { results := [], args := [] }

/- WHAT THE LISTED PACKAGE-LEVEL VARIABLES READ AS WHEN THE CALL BEGINS. Each datum BY PROGRAM (the guide's laid-datum.mjs) off the statement by which the dump's own 'gosem.cut.vars' lays the variable. In a bare row this is a premise. The card (YtgmoifbncijhdaaDoorCards.lean) ties it to the program's text. -/
def laid_sennit_rings_ways {H : Type} : DataW H := .agg [.agg [.lit (.int .i64 1), .lit (.int .i64 0)], .agg [.lit (.int .i64 (-1)), .lit (.int .i64 1)]]

/-- 'sennitlaw08.WiresRun': WHATEVER THE INPUT: true; the input reads as it did. -/
def wiresRunSpec : ChangeSpec := { name := "wiresRun", fn := fun _ => fun
  | [d1, d2] => { results := [.lit (.bool true)], args := [d1, d2] }
  | _ => none }
def wiresRunRow : OpenClaim := { program := "ytgmoifbncijhdaadoor", sum := "278c1149870e2824d98bf55d2138379fab3f90cf14e325fc39b24f9e55be0f7b", func := "sennit/sennitlaw08.WiresRun", spec := "wiresRun", named := ["sennit/rings.ways"], apart := false, laid := [("sennit/rings.ways", laid_sennit_rings_ways)] }
def WiresRunSaid : Prop := wiresRunRow.holds Tryd.pinned (OpenSpec.ofChange wiresRunSpec)

/-- ITS FALSE NEIGHBOUR: 'it returns false'. Refute it at one input. -/
def wiresRunWrong : ChangeSpec := { name := "wiresRun", fn := fun _ => fun
  | [d1, d2] => { results := [.lit (.bool false)], args := [d1, d2] }
  | _ => none }
def WiresRunWrongFalsely : Prop := wiresRunRow.holds Tryd.pinned (OpenSpec.ofChange wiresRunWrong)

/-- 'sennitlaw08.WiresVoid': WHATEVER THE INPUT: true; the input reads as it did. -/
def wiresVoidSpec : ChangeSpec := { name := "wiresVoid", fn := fun _ => fun
  | [d] => { results := [.lit (.bool true)], args := [d] }
  | _ => none }
def wiresVoidRow : OpenClaim := { program := "ytgmoifbncijhdaadoor", sum := "278c1149870e2824d98bf55d2138379fab3f90cf14e325fc39b24f9e55be0f7b", func := "sennit/sennitlaw08.WiresVoid", spec := "wiresVoid", named := ["sennit/rings.ways"], apart := false, laid := [("sennit/rings.ways", laid_sennit_rings_ways)] }
def WiresVoidSaid : Prop := wiresVoidRow.holds Tryd.pinned (OpenSpec.ofChange wiresVoidSpec)

/-- ITS FALSE NEIGHBOUR: 'it returns false'. Refute it at one input. -/
def wiresVoidWrong : ChangeSpec := { name := "wiresVoid", fn := fun _ => fun
  | [d] => { results := [.lit (.bool false)], args := [d] }
  | _ => none }
def WiresVoidWrongFalsely : Prop := wiresVoidRow.holds Tryd.pinned (OpenSpec.ofChange wiresVoidWrong)

/-- 'sennitlaw08.WiresAll': WHATEVER THE INPUT: true; the input reads as it did. -/
def wiresAllSpec : ChangeSpec := { name := "wiresAll", fn := fun _ => fun
  | [d1, d2] => { results := [.lit (.bool true)], args := [d1, d2] }
  | _ => none }
def wiresAllRow : OpenClaim := { program := "ytgmoifbncijhdaadoor", sum := "278c1149870e2824d98bf55d2138379fab3f90cf14e325fc39b24f9e55be0f7b", func := "sennit/sennitlaw08.WiresAll", spec := "wiresAll", named := ["sennit/rings.ways"], apart := false, laid := [("sennit/rings.ways", laid_sennit_rings_ways)] }
def WiresAllSaid : Prop := wiresAllRow.holds Tryd.pinned (OpenSpec.ofChange wiresAllSpec)

/-- ITS FALSE NEIGHBOUR: 'it returns false'. Refute it at one input. -/
def wiresAllWrong : ChangeSpec := { name := "wiresAll", fn := fun _ => fun
  | [d1, d2] => { results := [.lit (.bool false)], args := [d1, d2] }
  | _ => none }
def WiresAllWrongFalsely : Prop := wiresAllRow.holds Tryd.pinned (OpenSpec.ofChange wiresAllWrong)

/-- 'sennitlaw08.WiresTrack': WHATEVER THE INPUT: true; the input reads as it did. -/
def wiresTrackSpec : ChangeSpec := { name := "wiresTrack", fn := fun _ => fun
  | [d1, d2, d3] => { results := [.lit (.bool true)], args := [d1, d2, d3] }
  | _ => none }
def wiresTrackRow : OpenClaim := { program := "ytgmoifbncijhdaadoor", sum := "278c1149870e2824d98bf55d2138379fab3f90cf14e325fc39b24f9e55be0f7b", func := "sennit/sennitlaw08.WiresTrack", spec := "wiresTrack", named := ["sennit/rings.ways"], apart := false, laid := [("sennit/rings.ways", laid_sennit_rings_ways)] }
def WiresTrackSaid : Prop := wiresTrackRow.holds Tryd.pinned (OpenSpec.ofChange wiresTrackSpec)

/-- ITS FALSE NEIGHBOUR: 'it returns false'. Refute it at one input. -/
def wiresTrackWrong : ChangeSpec := { name := "wiresTrack", fn := fun _ => fun
  | [d1, d2, d3] => { results := [.lit (.bool false)], args := [d1, d2, d3] }
  | _ => none }
def WiresTrackWrongFalsely : Prop := wiresTrackRow.holds Tryd.pinned (OpenSpec.ofChange wiresTrackWrong)

/-- 'sennitlaw08.WiresApart': WHATEVER THE INPUT: true; the input reads as it did. -/
def wiresApartSpec : ChangeSpec := { name := "wiresApart", fn := fun _ => fun
  | [d1, d2, d3] => { results := [.lit (.bool true)], args := [d1, d2, d3] }
  | _ => none }
def wiresApartRow : OpenClaim := { program := "ytgmoifbncijhdaadoor", sum := "278c1149870e2824d98bf55d2138379fab3f90cf14e325fc39b24f9e55be0f7b", func := "sennit/sennitlaw08.WiresApart", spec := "wiresApart", named := ["sennit/rings.ways"], apart := false, laid := [("sennit/rings.ways", laid_sennit_rings_ways)] }
def WiresApartSaid : Prop := wiresApartRow.holds Tryd.pinned (OpenSpec.ofChange wiresApartSpec)

/-- ITS FALSE NEIGHBOUR: 'it returns false'. Refute it at one input. -/
def wiresApartWrong : ChangeSpec := { name := "wiresApart", fn := fun _ => fun
  | [d1, d2, d3] => { results := [.lit (.bool false)], args := [d1, d2, d3] }
  | _ => none }
def WiresApartWrongFalsely : Prop := wiresApartRow.holds Tryd.pinned (OpenSpec.ofChange wiresApartWrong)

/- THE SECOND FORM. 'bulk': how many values and letters a reading holds, each counted each time it is reached (what is shared counts as often as it is met; a slice's spare places count too). A statement '..UptoSaid' is the law's where the arguments, and the package variables that the reading takes, are together of bulk at most 1048576: NARROWER than '..Said'. Prove '..Said' where nothing that the law and all that it calls make is longer than what came in: it says more and counts as full. Else prove '..UptoSaid'. A law counts once. -/
mutual
def uptoBulk {H : Type} : DataW H → Nat
  | .lit (.string bytes) => bytes.length + 1
  | .lit _ => 1
  | .nil => 1
  | .ptr d => uptoBulk d + 1
  | .slice elems spare => uptoBulkAll elems + uptoBulkAll spare + 1
  | .agg parts => uptoBulkAll parts + 1
  | .iface _ d => uptoBulk d + 1
  | .map entries => uptoBulkEntries entries + 1
  | .held _ => 1
def uptoBulkAll {H : Type} : List (DataW H) → Nat
  | [] => 0
  | d :: r => uptoBulk d + uptoBulkAll r
def uptoBulkEntries {H : Type} : List (Lit × DataW H) → Nat
  | [] => 0
  | x :: r => uptoBulkEntry x + uptoBulkEntries r
def uptoBulkEntry {H : Type} : Lit × DataW H → Nat
  | (.string bytes, d) => bytes.length + uptoBulk d + 1
  | (_, d) => uptoBulk d + 1
 end
def uptoSmall : (H : Type) → List (DataW H) → Bool := fun _ ds => decide (uptoBulkAll ds ≤ 1048576)
def OpenSpec.upto (s : _root_.Go.ChangeSpec) : _root_.Go.OpenSpec := { _root_.Go.OpenSpec.ofChange s with cond := some uptoSmall }

/-- 'sennitlaw08.WiresRun', WHERE WHAT IT READS IS OF BULK AT MOST 1048576: true; the input reads as it did. -/
def wiresRunUptoRow : OpenClaim := { program := "ytgmoifbncijhdaadoor", sum := "278c1149870e2824d98bf55d2138379fab3f90cf14e325fc39b24f9e55be0f7b", func := "sennit/sennitlaw08.WiresRun", spec := "wiresRun", named := ["sennit/rings.ways"], apart := false, laid := [("sennit/rings.ways", laid_sennit_rings_ways)], narrowed := true }
def WiresRunUptoSaid : Prop := wiresRunUptoRow.holds Tryd.pinned (OpenSpec.upto wiresRunSpec)

/-- 'sennitlaw08.WiresVoid', WHERE WHAT IT READS IS OF BULK AT MOST 1048576: true; the input reads as it did. -/
def wiresVoidUptoRow : OpenClaim := { program := "ytgmoifbncijhdaadoor", sum := "278c1149870e2824d98bf55d2138379fab3f90cf14e325fc39b24f9e55be0f7b", func := "sennit/sennitlaw08.WiresVoid", spec := "wiresVoid", named := ["sennit/rings.ways"], apart := false, laid := [("sennit/rings.ways", laid_sennit_rings_ways)], narrowed := true }
def WiresVoidUptoSaid : Prop := wiresVoidUptoRow.holds Tryd.pinned (OpenSpec.upto wiresVoidSpec)

/-- 'sennitlaw08.WiresAll', WHERE WHAT IT READS IS OF BULK AT MOST 1048576: true; the input reads as it did. -/
def wiresAllUptoRow : OpenClaim := { program := "ytgmoifbncijhdaadoor", sum := "278c1149870e2824d98bf55d2138379fab3f90cf14e325fc39b24f9e55be0f7b", func := "sennit/sennitlaw08.WiresAll", spec := "wiresAll", named := ["sennit/rings.ways"], apart := false, laid := [("sennit/rings.ways", laid_sennit_rings_ways)], narrowed := true }
def WiresAllUptoSaid : Prop := wiresAllUptoRow.holds Tryd.pinned (OpenSpec.upto wiresAllSpec)

/-- 'sennitlaw08.WiresTrack', WHERE WHAT IT READS IS OF BULK AT MOST 1048576: true; the input reads as it did. -/
def wiresTrackUptoRow : OpenClaim := { program := "ytgmoifbncijhdaadoor", sum := "278c1149870e2824d98bf55d2138379fab3f90cf14e325fc39b24f9e55be0f7b", func := "sennit/sennitlaw08.WiresTrack", spec := "wiresTrack", named := ["sennit/rings.ways"], apart := false, laid := [("sennit/rings.ways", laid_sennit_rings_ways)], narrowed := true }
def WiresTrackUptoSaid : Prop := wiresTrackUptoRow.holds Tryd.pinned (OpenSpec.upto wiresTrackSpec)

/-- 'sennitlaw08.WiresApart', WHERE WHAT IT READS IS OF BULK AT MOST 1048576: true; the input reads as it did. -/
def wiresApartUptoRow : OpenClaim := { program := "ytgmoifbncijhdaadoor", sum := "278c1149870e2824d98bf55d2138379fab3f90cf14e325fc39b24f9e55be0f7b", func := "sennit/sennitlaw08.WiresApart", spec := "wiresApart", named := ["sennit/rings.ways"], apart := false, laid := [("sennit/rings.ways", laid_sennit_rings_ways)], narrowed := true }
def WiresApartUptoSaid : Prop := wiresApartUptoRow.holds Tryd.pinned (OpenSpec.upto wiresApartSpec)

end Rows
end Go.Proofs.YtgmoifbncijhdaaDoor
