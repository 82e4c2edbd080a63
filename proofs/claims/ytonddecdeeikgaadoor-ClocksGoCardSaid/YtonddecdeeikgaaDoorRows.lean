/-
  NARROWER THAN 'FOR EVERY INPUT', by the rows' own cells (each row's printed sentence says how): ClocksOf: laid · ClocksVoid: laid · ClocksBack: laid · ClocksWhole: laid · ClocksGo: laid.
  DERIVED. THE GIVEN ROWS OF THIS SEAT. 5 by the template 'for every input the law returns true; each argument reads behind the call as it read before'; 0 by the template 'total and deterministic' (their statements: YtonddecdeeikgaaDoorTotals.lean).
  GIVEN WITH THE SEED: the statements are not yours to turn. If you find one false, say at which input.
  Laid BY PROGRAM, IN A SANDBOX (cutbox-rows.mjs): the forced cells as the released guide's own fill.sh prints them over the translation 8e0ed531805d9058… (all of the seat's roots in one cut). By AI agents, Wed Nov 11 2026. No macro, syntax, notation, axiom, sorry.
-/
import Derived.Test.YtonddecdeeikgaaDoorChecked
import GoSem.Claim
import GoSem.ClaimJoined
import GoSem.ClaimMapViews
import Derived.JoinedTies
import Derived.KernelRfl
namespace Go.Proofs.YtonddecdeeikgaaDoor
/- THE CELL 'sum', in the pinned program and in every row, IS THE sha256 OF THE DUMP (.gsa) THAT YtonddecdeeikgaaDoorProg.lean LOADS. Nothing in Lean hashes anything: it is a label: what it is worth is what the hold of that sum in a sandbox is worth. -/
noncomputable def Tryd.pinned : Pinned := { name := "ytonddecdeeikgaadoor", sum := "8e0ed531805d90586dfa7676329ed23e18234c1d77ebebf7a689f01eb54e823a", checked := Tryd.checked }
namespace Rows
def none {H : Type} : Left H := { results := [], args := [] }

/- WHAT THE LISTED PACKAGE-LEVEL VARIABLES READ AS WHEN THE CALL BEGINS. Each datum BY PROGRAM (the guide's laid-datum.mjs) off the statement by which the dump's own 'gosem.cut.vars' lays the variable. In a bare row this is a premise. The card (YtonddecdeeikgaaDoorCards.lean) ties it to the program's text. -/
def laid_sennit_rings_ways {H : Type} : DataW H := .agg [.agg [.lit (.int .i64 1), .lit (.int .i64 0)], .agg [.lit (.int .i64 (-1)), .lit (.int .i64 1)]]

/-- 'sennitlaw06.ClocksOf': WHATEVER THE INPUT: true; the input reads as it did. -/
def clocksOfSpec : ChangeSpec := { name := "clocksOf", fn := fun _ => fun
  | [d1, d2, d3] => { results := [.lit (.bool true)], args := [d1, d2, d3] }
  | _ => none }
def clocksOfRow : OpenClaim := { program := "ytonddecdeeikgaadoor", sum := "8e0ed531805d90586dfa7676329ed23e18234c1d77ebebf7a689f01eb54e823a", func := "sennit/sennitlaw06.ClocksOf", spec := "clocksOf", unfollowed := true, recurses := true, named := ["sennit/rings.ways"], apart := false, laid := [("sennit/rings.ways", laid_sennit_rings_ways)] }
def ClocksOfSaid : Prop := clocksOfRow.holds Tryd.pinned (OpenSpec.ofChange clocksOfSpec)

/-- ITS FALSE NEIGHBOUR: 'it returns false'. Refute it at one input. -/
def clocksOfWrong : ChangeSpec := { name := "clocksOf", fn := fun _ => fun
  | [d1, d2, d3] => { results := [.lit (.bool false)], args := [d1, d2, d3] }
  | _ => none }
def ClocksOfWrongFalsely : Prop := clocksOfRow.holds Tryd.pinned (OpenSpec.ofChange clocksOfWrong)

/-- 'sennitlaw06.ClocksVoid': WHATEVER THE INPUT: true; the input reads as it did. -/
def clocksVoidSpec : ChangeSpec := { name := "clocksVoid", fn := fun _ => fun
  | [d1, d2] => { results := [.lit (.bool true)], args := [d1, d2] }
  | _ => none }
def clocksVoidRow : OpenClaim := { program := "ytonddecdeeikgaadoor", sum := "8e0ed531805d90586dfa7676329ed23e18234c1d77ebebf7a689f01eb54e823a", func := "sennit/sennitlaw06.ClocksVoid", spec := "clocksVoid", unfollowed := true, recurses := true, named := ["sennit/rings.ways"], apart := false, laid := [("sennit/rings.ways", laid_sennit_rings_ways)] }
def ClocksVoidSaid : Prop := clocksVoidRow.holds Tryd.pinned (OpenSpec.ofChange clocksVoidSpec)

/-- ITS FALSE NEIGHBOUR: 'it returns false'. Refute it at one input. -/
def clocksVoidWrong : ChangeSpec := { name := "clocksVoid", fn := fun _ => fun
  | [d1, d2] => { results := [.lit (.bool false)], args := [d1, d2] }
  | _ => none }
def ClocksVoidWrongFalsely : Prop := clocksVoidRow.holds Tryd.pinned (OpenSpec.ofChange clocksVoidWrong)

/-- 'sennitlaw06.ClocksBack': WHATEVER THE INPUT: true; the input reads as it did. -/
def clocksBackSpec : ChangeSpec := { name := "clocksBack", fn := fun _ => fun
  | [d1, d2] => { results := [.lit (.bool true)], args := [d1, d2] }
  | _ => none }
def clocksBackRow : OpenClaim := { program := "ytonddecdeeikgaadoor", sum := "8e0ed531805d90586dfa7676329ed23e18234c1d77ebebf7a689f01eb54e823a", func := "sennit/sennitlaw06.ClocksBack", spec := "clocksBack", unfollowed := true, recurses := true, named := ["sennit/rings.ways"], apart := false, laid := [("sennit/rings.ways", laid_sennit_rings_ways)] }
def ClocksBackSaid : Prop := clocksBackRow.holds Tryd.pinned (OpenSpec.ofChange clocksBackSpec)

/-- ITS FALSE NEIGHBOUR: 'it returns false'. Refute it at one input. -/
def clocksBackWrong : ChangeSpec := { name := "clocksBack", fn := fun _ => fun
  | [d1, d2] => { results := [.lit (.bool false)], args := [d1, d2] }
  | _ => none }
def ClocksBackWrongFalsely : Prop := clocksBackRow.holds Tryd.pinned (OpenSpec.ofChange clocksBackWrong)

/-- 'sennitlaw06.ClocksWhole': WHATEVER THE INPUT: true; the input reads as it did. -/
def clocksWholeSpec : ChangeSpec := { name := "clocksWhole", fn := fun _ => fun
  | [d1, d2] => { results := [.lit (.bool true)], args := [d1, d2] }
  | _ => none }
def clocksWholeRow : OpenClaim := { program := "ytonddecdeeikgaadoor", sum := "8e0ed531805d90586dfa7676329ed23e18234c1d77ebebf7a689f01eb54e823a", func := "sennit/sennitlaw06.ClocksWhole", spec := "clocksWhole", unfollowed := true, recurses := true, named := ["sennit/rings.ways"], apart := false, laid := [("sennit/rings.ways", laid_sennit_rings_ways)] }
def ClocksWholeSaid : Prop := clocksWholeRow.holds Tryd.pinned (OpenSpec.ofChange clocksWholeSpec)

/-- ITS FALSE NEIGHBOUR: 'it returns false'. Refute it at one input. -/
def clocksWholeWrong : ChangeSpec := { name := "clocksWhole", fn := fun _ => fun
  | [d1, d2] => { results := [.lit (.bool false)], args := [d1, d2] }
  | _ => none }
def ClocksWholeWrongFalsely : Prop := clocksWholeRow.holds Tryd.pinned (OpenSpec.ofChange clocksWholeWrong)

/-- 'sennitlaw06.ClocksGo': WHATEVER THE INPUT: true; the input reads as it did. -/
def clocksGoSpec : ChangeSpec := { name := "clocksGo", fn := fun _ => fun
  | [d1, d2] => { results := [.lit (.bool true)], args := [d1, d2] }
  | _ => none }
def clocksGoRow : OpenClaim := { program := "ytonddecdeeikgaadoor", sum := "8e0ed531805d90586dfa7676329ed23e18234c1d77ebebf7a689f01eb54e823a", func := "sennit/sennitlaw06.ClocksGo", spec := "clocksGo", unfollowed := true, recurses := true, named := ["sennit/rings.ways"], apart := false, laid := [("sennit/rings.ways", laid_sennit_rings_ways)] }
def ClocksGoSaid : Prop := clocksGoRow.holds Tryd.pinned (OpenSpec.ofChange clocksGoSpec)

/-- ITS FALSE NEIGHBOUR: 'it returns false'. Refute it at one input. -/
def clocksGoWrong : ChangeSpec := { name := "clocksGo", fn := fun _ => fun
  | [d1, d2] => { results := [.lit (.bool false)], args := [d1, d2] }
  | _ => none }
def ClocksGoWrongFalsely : Prop := clocksGoRow.holds Tryd.pinned (OpenSpec.ofChange clocksGoWrong)

/- THE SECOND FORM. 'bulk': how many values and letters a reading holds, each counted each time it is reached (what is shared counts as often as it is met; a slice's spare places count too). A statement '..UptoSaid' is the law's where the arguments, and the package variables that the reading takes, are together of bulk at most 1048576: NARROWER than '..Said'. Prove '..Said' where nothing that the law and all that it calls make is longer than what came in: it says more and counts as full. Else prove '..UptoSaid'. A law counts once. -/
mutual
def uptoBulk {H : Type} : DataW H → Nat
  | .lit (.string bytes) => bytes.length + 1
  | .lit _ => 1
  | .nil => 1
  | .ptr d => uptoBulk d + 1
  | .slice elems spare => uptoBulkAll elems + uptoBulkAll spare + 1
  | .agg parts => uptoBulkAll parts + 1
  | .iface _ d => uptoBulk d + 1
  | .map entries => uptoBulkEntries entries + 1
  | .held _ => 1
def uptoBulkAll {H : Type} : List (DataW H) → Nat
  | [] => 0
  | d :: r => uptoBulk d + uptoBulkAll r
def uptoBulkEntries {H : Type} : List (Lit × DataW H) → Nat
  | [] => 0
  | x :: r => uptoBulkEntry x + uptoBulkEntries r
def uptoBulkEntry {H : Type} : Lit × DataW H → Nat
  | (.string bytes, d) => bytes.length + uptoBulk d + 1
  | (_, d) => uptoBulk d + 1
 end
def uptoSmall : (H : Type) → List (DataW H) → Bool := fun _ ds => decide (uptoBulkAll ds ≤ 1048576)
def OpenSpec.upto (s : _root_.Go.ChangeSpec) : _root_.Go.OpenSpec := { _root_.Go.OpenSpec.ofChange s with cond := some uptoSmall }

/-- 'sennitlaw06.ClocksOf', WHERE WHAT IT READS IS OF BULK AT MOST 1048576: true; the input reads as it did. -/
def clocksOfUptoRow : OpenClaim := { program := "ytonddecdeeikgaadoor", sum := "8e0ed531805d90586dfa7676329ed23e18234c1d77ebebf7a689f01eb54e823a", func := "sennit/sennitlaw06.ClocksOf", spec := "clocksOf", unfollowed := true, recurses := true, named := ["sennit/rings.ways"], apart := false, laid := [("sennit/rings.ways", laid_sennit_rings_ways)], narrowed := true }
def ClocksOfUptoSaid : Prop := clocksOfUptoRow.holds Tryd.pinned (OpenSpec.upto clocksOfSpec)

/-- 'sennitlaw06.ClocksVoid', WHERE WHAT IT READS IS OF BULK AT MOST 1048576: true; the input reads as it did. -/
def clocksVoidUptoRow : OpenClaim := { program := "ytonddecdeeikgaadoor", sum := "8e0ed531805d90586dfa7676329ed23e18234c1d77ebebf7a689f01eb54e823a", func := "sennit/sennitlaw06.ClocksVoid", spec := "clocksVoid", unfollowed := true, recurses := true, named := ["sennit/rings.ways"], apart := false, laid := [("sennit/rings.ways", laid_sennit_rings_ways)], narrowed := true }
def ClocksVoidUptoSaid : Prop := clocksVoidUptoRow.holds Tryd.pinned (OpenSpec.upto clocksVoidSpec)

/-- 'sennitlaw06.ClocksBack', WHERE WHAT IT READS IS OF BULK AT MOST 1048576: true; the input reads as it did. -/
def clocksBackUptoRow : OpenClaim := { program := "ytonddecdeeikgaadoor", sum := "8e0ed531805d90586dfa7676329ed23e18234c1d77ebebf7a689f01eb54e823a", func := "sennit/sennitlaw06.ClocksBack", spec := "clocksBack", unfollowed := true, recurses := true, named := ["sennit/rings.ways"], apart := false, laid := [("sennit/rings.ways", laid_sennit_rings_ways)], narrowed := true }
def ClocksBackUptoSaid : Prop := clocksBackUptoRow.holds Tryd.pinned (OpenSpec.upto clocksBackSpec)

/-- 'sennitlaw06.ClocksWhole', WHERE WHAT IT READS IS OF BULK AT MOST 1048576: true; the input reads as it did. -/
def clocksWholeUptoRow : OpenClaim := { program := "ytonddecdeeikgaadoor", sum := "8e0ed531805d90586dfa7676329ed23e18234c1d77ebebf7a689f01eb54e823a", func := "sennit/sennitlaw06.ClocksWhole", spec := "clocksWhole", unfollowed := true, recurses := true, named := ["sennit/rings.ways"], apart := false, laid := [("sennit/rings.ways", laid_sennit_rings_ways)], narrowed := true }
def ClocksWholeUptoSaid : Prop := clocksWholeUptoRow.holds Tryd.pinned (OpenSpec.upto clocksWholeSpec)

/-- 'sennitlaw06.ClocksGo', WHERE WHAT IT READS IS OF BULK AT MOST 1048576: true; the input reads as it did. -/
def clocksGoUptoRow : OpenClaim := { program := "ytonddecdeeikgaadoor", sum := "8e0ed531805d90586dfa7676329ed23e18234c1d77ebebf7a689f01eb54e823a", func := "sennit/sennitlaw06.ClocksGo", spec := "clocksGo", unfollowed := true, recurses := true, named := ["sennit/rings.ways"], apart := false, laid := [("sennit/rings.ways", laid_sennit_rings_ways)], narrowed := true }
def ClocksGoUptoSaid : Prop := clocksGoUptoRow.holds Tryd.pinned (OpenSpec.upto clocksGoSpec)

end Rows
end Go.Proofs.YtonddecdeeikgaaDoor
