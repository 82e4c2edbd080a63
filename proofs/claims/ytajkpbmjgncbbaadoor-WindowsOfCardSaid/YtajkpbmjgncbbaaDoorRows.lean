/-
  NARROWER THAN 'FOR EVERY INPUT', by the rows' own cells (each row's printed sentence says how): WindowsOf: laid · WindowsVoid: laid · WindowsMeet: laid · WindowsOver: laid · WindowsGuards: laid.
  DERIVED. THE GIVEN ROWS OF THIS SEAT. 5 by the template 'for every input the law returns true; each argument reads behind the call as it read before'; 0 by the template 'total and deterministic' (their statements: YtajkpbmjgncbbaaDoorTotals.lean).
  GIVEN WITH THE SEED: the statements are not yours to turn. If you find one false, say at which input.
  Laid BY PROGRAM, IN A SANDBOX (cutbox-rows.mjs): the forced cells as the released guide's own fill.sh prints them over the translation a84e39172284aa46… (all of the seat's roots in one cut). By AI agents, Wed Nov 11 2026. No macro, syntax, notation, axiom, sorry.
-/
import Derived.Test.YtajkpbmjgncbbaaDoorChecked
import GoSem.Claim
import GoSem.ClaimJoined
import GoSem.ClaimMapViews
import Derived.JoinedTies
import Derived.KernelRfl
namespace Go.Proofs.YtajkpbmjgncbbaaDoor
/- THE CELL 'sum', in the pinned program and in every row, IS THE sha256 OF THE DUMP (.gsa) THAT YtajkpbmjgncbbaaDoorProg.lean LOADS. Nothing in Lean hashes anything: it is a label: what it is worth is what the hold of that sum in a sandbox is worth. -/
noncomputable def Tryd.pinned : Pinned := { name := "ytajkpbmjgncbbaadoor", sum := "a84e39172284aa4658437bc30b43a9cb890c65f8b7c362efe83ff634374d4ca2", checked := Tryd.checked }
namespace Rows
def none {H : Type} : Left H := { results := [], args := [] }

/- WHAT THE LISTED PACKAGE-LEVEL VARIABLES READ AS WHEN THE CALL BEGINS. Each datum BY PROGRAM (the guide's laid-datum.mjs) off the statement by which the dump's own 'gosem.cut.vars' lays the variable. In a bare row this is a premise. The card (YtajkpbmjgncbbaaDoorCards.lean) ties it to the program's text. -/
def laid_sennit_rings_ways {H : Type} : DataW H := .agg [.agg [.lit (.int .i64 1), .lit (.int .i64 0)], .agg [.lit (.int .i64 (-1)), .lit (.int .i64 1)]]
def laid_sennit_windows_roles {H : Type} : DataW H := .agg [.lit (.int .u8 1), .lit (.int .u8 1), .lit (.int .u8 2), .lit (.int .u8 3)]

/-- 'sennitlaw10.WindowsOf': WHATEVER THE INPUT: true; the input reads as it did. -/
def windowsOfSpec : ChangeSpec := { name := "windowsOf", fn := fun _ => fun
  | [d1, d2, d3] => { results := [.lit (.bool true)], args := [d1, d2, d3] }
  | _ => none }
def windowsOfRow : OpenClaim := { program := "ytajkpbmjgncbbaadoor", sum := "a84e39172284aa4658437bc30b43a9cb890c65f8b7c362efe83ff634374d4ca2", func := "sennit/sennitlaw10.WindowsOf", spec := "windowsOf", unfollowed := true, recurses := true, named := ["sennit/rings.ways", "sennit/windows.roles"], apart := false, laid := [("sennit/rings.ways", laid_sennit_rings_ways), ("sennit/windows.roles", laid_sennit_windows_roles)] }
def WindowsOfSaid : Prop := windowsOfRow.holds Tryd.pinned (OpenSpec.ofChange windowsOfSpec)

/-- ITS FALSE NEIGHBOUR: 'it returns false'. Refute it at one input. -/
def windowsOfWrong : ChangeSpec := { name := "windowsOf", fn := fun _ => fun
  | [d1, d2, d3] => { results := [.lit (.bool false)], args := [d1, d2, d3] }
  | _ => none }
def WindowsOfWrongFalsely : Prop := windowsOfRow.holds Tryd.pinned (OpenSpec.ofChange windowsOfWrong)

/-- 'sennitlaw10.WindowsVoid': WHATEVER THE INPUT: true; the input reads as it did. -/
def windowsVoidSpec : ChangeSpec := { name := "windowsVoid", fn := fun _ => fun
  | [d] => { results := [.lit (.bool true)], args := [d] }
  | _ => none }
def windowsVoidRow : OpenClaim := { program := "ytajkpbmjgncbbaadoor", sum := "a84e39172284aa4658437bc30b43a9cb890c65f8b7c362efe83ff634374d4ca2", func := "sennit/sennitlaw10.WindowsVoid", spec := "windowsVoid", unfollowed := true, recurses := true, named := ["sennit/rings.ways", "sennit/windows.roles"], apart := false, laid := [("sennit/rings.ways", laid_sennit_rings_ways), ("sennit/windows.roles", laid_sennit_windows_roles)] }
def WindowsVoidSaid : Prop := windowsVoidRow.holds Tryd.pinned (OpenSpec.ofChange windowsVoidSpec)

/-- ITS FALSE NEIGHBOUR: 'it returns false'. Refute it at one input. -/
def windowsVoidWrong : ChangeSpec := { name := "windowsVoid", fn := fun _ => fun
  | [d] => { results := [.lit (.bool false)], args := [d] }
  | _ => none }
def WindowsVoidWrongFalsely : Prop := windowsVoidRow.holds Tryd.pinned (OpenSpec.ofChange windowsVoidWrong)

/-- 'sennitlaw10.WindowsMeet': WHATEVER THE INPUT: true; the input reads as it did. -/
def windowsMeetSpec : ChangeSpec := { name := "windowsMeet", fn := fun _ => fun
  | [d1, d2, d3] => { results := [.lit (.bool true)], args := [d1, d2, d3] }
  | _ => none }
def windowsMeetRow : OpenClaim := { program := "ytajkpbmjgncbbaadoor", sum := "a84e39172284aa4658437bc30b43a9cb890c65f8b7c362efe83ff634374d4ca2", func := "sennit/sennitlaw10.WindowsMeet", spec := "windowsMeet", unfollowed := true, recurses := true, named := ["sennit/rings.ways", "sennit/windows.roles"], apart := false, laid := [("sennit/rings.ways", laid_sennit_rings_ways), ("sennit/windows.roles", laid_sennit_windows_roles)] }
def WindowsMeetSaid : Prop := windowsMeetRow.holds Tryd.pinned (OpenSpec.ofChange windowsMeetSpec)

/-- ITS FALSE NEIGHBOUR: 'it returns false'. Refute it at one input. -/
def windowsMeetWrong : ChangeSpec := { name := "windowsMeet", fn := fun _ => fun
  | [d1, d2, d3] => { results := [.lit (.bool false)], args := [d1, d2, d3] }
  | _ => none }
def WindowsMeetWrongFalsely : Prop := windowsMeetRow.holds Tryd.pinned (OpenSpec.ofChange windowsMeetWrong)

/-- 'sennitlaw10.WindowsOver': WHATEVER THE INPUT: true; the input reads as it did. -/
def windowsOverSpec : ChangeSpec := { name := "windowsOver", fn := fun _ => fun
  | [d1, d2] => { results := [.lit (.bool true)], args := [d1, d2] }
  | _ => none }
def windowsOverRow : OpenClaim := { program := "ytajkpbmjgncbbaadoor", sum := "a84e39172284aa4658437bc30b43a9cb890c65f8b7c362efe83ff634374d4ca2", func := "sennit/sennitlaw10.WindowsOver", spec := "windowsOver", unfollowed := true, recurses := true, named := ["sennit/rings.ways", "sennit/windows.roles"], apart := false, laid := [("sennit/rings.ways", laid_sennit_rings_ways), ("sennit/windows.roles", laid_sennit_windows_roles)] }
def WindowsOverSaid : Prop := windowsOverRow.holds Tryd.pinned (OpenSpec.ofChange windowsOverSpec)

/-- ITS FALSE NEIGHBOUR: 'it returns false'. Refute it at one input. -/
def windowsOverWrong : ChangeSpec := { name := "windowsOver", fn := fun _ => fun
  | [d1, d2] => { results := [.lit (.bool false)], args := [d1, d2] }
  | _ => none }
def WindowsOverWrongFalsely : Prop := windowsOverRow.holds Tryd.pinned (OpenSpec.ofChange windowsOverWrong)

/-- 'sennitlaw10.WindowsGuards': WHATEVER THE INPUT: true; the input reads as it did. -/
def windowsGuardsSpec : ChangeSpec := { name := "windowsGuards", fn := fun _ => fun
  | [d1, d2] => { results := [.lit (.bool true)], args := [d1, d2] }
  | _ => none }
def windowsGuardsRow : OpenClaim := { program := "ytajkpbmjgncbbaadoor", sum := "a84e39172284aa4658437bc30b43a9cb890c65f8b7c362efe83ff634374d4ca2", func := "sennit/sennitlaw10.WindowsGuards", spec := "windowsGuards", unfollowed := true, recurses := true, named := ["sennit/rings.ways", "sennit/windows.roles"], apart := false, laid := [("sennit/rings.ways", laid_sennit_rings_ways), ("sennit/windows.roles", laid_sennit_windows_roles)] }
def WindowsGuardsSaid : Prop := windowsGuardsRow.holds Tryd.pinned (OpenSpec.ofChange windowsGuardsSpec)

/-- ITS FALSE NEIGHBOUR: 'it returns false'. Refute it at one input. -/
def windowsGuardsWrong : ChangeSpec := { name := "windowsGuards", fn := fun _ => fun
  | [d1, d2] => { results := [.lit (.bool false)], args := [d1, d2] }
  | _ => none }
def WindowsGuardsWrongFalsely : Prop := windowsGuardsRow.holds Tryd.pinned (OpenSpec.ofChange windowsGuardsWrong)

/- THE SECOND FORM. 'bulk': how many values and letters a reading holds, each counted each time it is reached (what is shared counts as often as it is met; a slice's spare places count too). A statement '..UptoSaid' is the law's where the arguments, and the package variables that the reading takes, are together of bulk at most 1048576: NARROWER than '..Said'. Prove '..Said' where nothing that the law and all that it calls make is longer than what came in: it says more and counts as full. Else prove '..UptoSaid'. A law counts once. -/
mutual
def uptoBulk {H : Type} : DataW H → Nat
  | .lit (.string bytes) => bytes.length + 1
  | .lit _ => 1
  | .nil => 1
  | .ptr d => uptoBulk d + 1
  | .slice elems spare => uptoBulkAll elems + uptoBulkAll spare + 1
  | .agg parts => uptoBulkAll parts + 1
  | .iface _ d => uptoBulk d + 1
  | .map entries => uptoBulkEntries entries + 1
  | .held _ => 1
def uptoBulkAll {H : Type} : List (DataW H) → Nat
  | [] => 0
  | d :: r => uptoBulk d + uptoBulkAll r
def uptoBulkEntries {H : Type} : List (Lit × DataW H) → Nat
  | [] => 0
  | x :: r => uptoBulkEntry x + uptoBulkEntries r
def uptoBulkEntry {H : Type} : Lit × DataW H → Nat
  | (.string bytes, d) => bytes.length + uptoBulk d + 1
  | (_, d) => uptoBulk d + 1
 end
def uptoSmall : (H : Type) → List (DataW H) → Bool := fun _ ds => decide (uptoBulkAll ds ≤ 1048576)
def OpenSpec.upto (s : _root_.Go.ChangeSpec) : _root_.Go.OpenSpec := { _root_.Go.OpenSpec.ofChange s with cond := some uptoSmall }

/-- 'sennitlaw10.WindowsOf', WHERE WHAT IT READS IS OF BULK AT MOST 1048576: true; the input reads as it did. -/
def windowsOfUptoRow : OpenClaim := { program := "ytajkpbmjgncbbaadoor", sum := "a84e39172284aa4658437bc30b43a9cb890c65f8b7c362efe83ff634374d4ca2", func := "sennit/sennitlaw10.WindowsOf", spec := "windowsOf", unfollowed := true, recurses := true, named := ["sennit/rings.ways", "sennit/windows.roles"], apart := false, laid := [("sennit/rings.ways", laid_sennit_rings_ways), ("sennit/windows.roles", laid_sennit_windows_roles)], narrowed := true }
def WindowsOfUptoSaid : Prop := windowsOfUptoRow.holds Tryd.pinned (OpenSpec.upto windowsOfSpec)

/-- 'sennitlaw10.WindowsVoid', WHERE WHAT IT READS IS OF BULK AT MOST 1048576: true; the input reads as it did. -/
def windowsVoidUptoRow : OpenClaim := { program := "ytajkpbmjgncbbaadoor", sum := "a84e39172284aa4658437bc30b43a9cb890c65f8b7c362efe83ff634374d4ca2", func := "sennit/sennitlaw10.WindowsVoid", spec := "windowsVoid", unfollowed := true, recurses := true, named := ["sennit/rings.ways", "sennit/windows.roles"], apart := false, laid := [("sennit/rings.ways", laid_sennit_rings_ways), ("sennit/windows.roles", laid_sennit_windows_roles)], narrowed := true }
def WindowsVoidUptoSaid : Prop := windowsVoidUptoRow.holds Tryd.pinned (OpenSpec.upto windowsVoidSpec)

/-- 'sennitlaw10.WindowsMeet', WHERE WHAT IT READS IS OF BULK AT MOST 1048576: true; the input reads as it did. -/
def windowsMeetUptoRow : OpenClaim := { program := "ytajkpbmjgncbbaadoor", sum := "a84e39172284aa4658437bc30b43a9cb890c65f8b7c362efe83ff634374d4ca2", func := "sennit/sennitlaw10.WindowsMeet", spec := "windowsMeet", unfollowed := true, recurses := true, named := ["sennit/rings.ways", "sennit/windows.roles"], apart := false, laid := [("sennit/rings.ways", laid_sennit_rings_ways), ("sennit/windows.roles", laid_sennit_windows_roles)], narrowed := true }
def WindowsMeetUptoSaid : Prop := windowsMeetUptoRow.holds Tryd.pinned (OpenSpec.upto windowsMeetSpec)

/-- 'sennitlaw10.WindowsOver', WHERE WHAT IT READS IS OF BULK AT MOST 1048576: true; the input reads as it did. -/
def windowsOverUptoRow : OpenClaim := { program := "ytajkpbmjgncbbaadoor", sum := "a84e39172284aa4658437bc30b43a9cb890c65f8b7c362efe83ff634374d4ca2", func := "sennit/sennitlaw10.WindowsOver", spec := "windowsOver", unfollowed := true, recurses := true, named := ["sennit/rings.ways", "sennit/windows.roles"], apart := false, laid := [("sennit/rings.ways", laid_sennit_rings_ways), ("sennit/windows.roles", laid_sennit_windows_roles)], narrowed := true }
def WindowsOverUptoSaid : Prop := windowsOverUptoRow.holds Tryd.pinned (OpenSpec.upto windowsOverSpec)

/-- 'sennitlaw10.WindowsGuards', WHERE WHAT IT READS IS OF BULK AT MOST 1048576: true; the input reads as it did. -/
def windowsGuardsUptoRow : OpenClaim := { program := "ytajkpbmjgncbbaadoor", sum := "a84e39172284aa4658437bc30b43a9cb890c65f8b7c362efe83ff634374d4ca2", func := "sennit/sennitlaw10.WindowsGuards", spec := "windowsGuards", unfollowed := true, recurses := true, named := ["sennit/rings.ways", "sennit/windows.roles"], apart := false, laid := [("sennit/rings.ways", laid_sennit_rings_ways), ("sennit/windows.roles", laid_sennit_windows_roles)], narrowed := true }
def WindowsGuardsUptoSaid : Prop := windowsGuardsUptoRow.holds Tryd.pinned (OpenSpec.upto windowsGuardsSpec)

end Rows
end Go.Proofs.YtajkpbmjgncbbaaDoor
