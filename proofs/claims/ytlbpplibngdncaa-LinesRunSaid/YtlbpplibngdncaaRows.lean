/-
  No cell of these rows narrows 'for every input' (looked for: loops, veiled, ifaces, maps, wideKeys, modest, calm, conditions, laid).
  DERIVED. THE GIVEN ROWS OF THIS SEAT. 4 by the template 'for every input the law returns true; each argument reads behind the call as it read before'; 0 by the template 'total and deterministic' (their statements: YtlbpplibngdncaaTotals.lean).
  GIVEN WITH THE SEED: the statements are not yours to turn. If you find one false, say at which input.
  Laid BY PROGRAM, IN A SANDBOX (cutbox-rows.mjs): the forced cells as the released guide's own fill.sh prints them over the translation d963e38b353cf881… (all of the seat's roots in one cut). By AI agents, Wed Nov 11 2026. No macro, syntax, notation, axiom, sorry.
-/
import Derived.Test.YtlbpplibngdncaaChecked
import GoSem.Claim
import GoSem.ClaimJoined
import GoSem.ClaimMapViews
import Derived.JoinedTies
import Derived.KernelRfl
namespace Go.Proofs.Ytlbpplibngdncaa
/- THE CELL 'sum', in the pinned program and in every row, IS THE sha256 OF THE DUMP (.gsa) THAT YtlbpplibngdncaaProg.lean LOADS. Nothing in Lean hashes anything: it is a label: what it is worth is what the hold of that sum in a sandbox is worth. -/
noncomputable def Try.pinned : Pinned := { name := "ytlbpplibngdncaa", sum := "d963e38b353cf8811975e41e4a2b650a52c8f46381579c9371ecfb9b42c97922", checked := Try.checked }
namespace Rows
def none {H : Type} : Left H := { results := [], args := [] }

/-- 'sennitlaw07.LinesRun': WHATEVER THE INPUT: true; the input reads as it did. -/
def linesRunSpec : ChangeSpec := { name := "linesRun", fn := fun _ => fun
  | [d1, d2] => { results := [.lit (.bool true)], args := [d1, d2] }
  | _ => none }
def linesRunRow : OpenClaim := { program := "ytlbpplibngdncaa", sum := "d963e38b353cf8811975e41e4a2b650a52c8f46381579c9371ecfb9b42c97922", func := "sennit/sennitlaw07.LinesRun", spec := "linesRun", apart := false }
def LinesRunSaid : Prop := linesRunRow.holds Try.pinned (OpenSpec.ofChange linesRunSpec)

/-- ITS FALSE NEIGHBOUR: 'it returns false'. Refute it at one input. -/
def linesRunWrong : ChangeSpec := { name := "linesRun", fn := fun _ => fun
  | [d1, d2] => { results := [.lit (.bool false)], args := [d1, d2] }
  | _ => none }
def LinesRunWrongFalsely : Prop := linesRunRow.holds Try.pinned (OpenSpec.ofChange linesRunWrong)

/-- 'sennitlaw07.LinesVoid': WHATEVER THE INPUT: true; the input reads as it did. -/
def linesVoidSpec : ChangeSpec := { name := "linesVoid", fn := fun _ => fun
  | [d] => { results := [.lit (.bool true)], args := [d] }
  | _ => none }
def linesVoidRow : OpenClaim := { program := "ytlbpplibngdncaa", sum := "d963e38b353cf8811975e41e4a2b650a52c8f46381579c9371ecfb9b42c97922", func := "sennit/sennitlaw07.LinesVoid", spec := "linesVoid", apart := false }
def LinesVoidSaid : Prop := linesVoidRow.holds Try.pinned (OpenSpec.ofChange linesVoidSpec)

/-- ITS FALSE NEIGHBOUR: 'it returns false'. Refute it at one input. -/
def linesVoidWrong : ChangeSpec := { name := "linesVoid", fn := fun _ => fun
  | [d] => { results := [.lit (.bool false)], args := [d] }
  | _ => none }
def LinesVoidWrongFalsely : Prop := linesVoidRow.holds Try.pinned (OpenSpec.ofChange linesVoidWrong)

/-- 'sennitlaw07.LinesTime': WHATEVER THE INPUT: true; the input reads as it did. -/
def linesTimeSpec : ChangeSpec := { name := "linesTime", fn := fun _ => fun
  | [d1, d2] => { results := [.lit (.bool true)], args := [d1, d2] }
  | _ => none }
def linesTimeRow : OpenClaim := { program := "ytlbpplibngdncaa", sum := "d963e38b353cf8811975e41e4a2b650a52c8f46381579c9371ecfb9b42c97922", func := "sennit/sennitlaw07.LinesTime", spec := "linesTime", apart := false }
def LinesTimeSaid : Prop := linesTimeRow.holds Try.pinned (OpenSpec.ofChange linesTimeSpec)

/-- ITS FALSE NEIGHBOUR: 'it returns false'. Refute it at one input. -/
def linesTimeWrong : ChangeSpec := { name := "linesTime", fn := fun _ => fun
  | [d1, d2] => { results := [.lit (.bool false)], args := [d1, d2] }
  | _ => none }
def LinesTimeWrongFalsely : Prop := linesTimeRow.holds Try.pinned (OpenSpec.ofChange linesTimeWrong)

/-- 'sennitlaw07.LinesKinds': WHATEVER THE INPUT: true; the input reads as it did. -/
def linesKindsSpec : ChangeSpec := { name := "linesKinds", fn := fun _ => fun
  | [d1, d2] => { results := [.lit (.bool true)], args := [d1, d2] }
  | _ => none }
def linesKindsRow : OpenClaim := { program := "ytlbpplibngdncaa", sum := "d963e38b353cf8811975e41e4a2b650a52c8f46381579c9371ecfb9b42c97922", func := "sennit/sennitlaw07.LinesKinds", spec := "linesKinds", apart := false }
def LinesKindsSaid : Prop := linesKindsRow.holds Try.pinned (OpenSpec.ofChange linesKindsSpec)

/-- ITS FALSE NEIGHBOUR: 'it returns false'. Refute it at one input. -/
def linesKindsWrong : ChangeSpec := { name := "linesKinds", fn := fun _ => fun
  | [d1, d2] => { results := [.lit (.bool false)], args := [d1, d2] }
  | _ => none }
def LinesKindsWrongFalsely : Prop := linesKindsRow.holds Try.pinned (OpenSpec.ofChange linesKindsWrong)

/- THE SECOND FORM. 'bulk': how many values and letters a reading holds, each counted each time it is reached (what is shared counts as often as it is met; a slice's spare places count too). A statement '..UptoSaid' is the law's where the arguments, and the package variables that the reading takes, are together of bulk at most 1048576: NARROWER than '..Said'. Prove '..Said' where nothing that the law and all that it calls make is longer than what came in: it says more and counts as full. Else prove '..UptoSaid'. A law counts once. -/
mutual
def uptoBulk {H : Type} : DataW H → Nat
  | .lit (.string bytes) => bytes.length + 1
  | .lit _ => 1
  | .nil => 1
  | .ptr d => uptoBulk d + 1
  | .slice elems spare => uptoBulkAll elems + uptoBulkAll spare + 1
  | .agg parts => uptoBulkAll parts + 1
  | .iface _ d => uptoBulk d + 1
  | .map entries => uptoBulkEntries entries + 1
  | .held _ => 1
def uptoBulkAll {H : Type} : List (DataW H) → Nat
  | [] => 0
  | d :: r => uptoBulk d + uptoBulkAll r
def uptoBulkEntries {H : Type} : List (Lit × DataW H) → Nat
  | [] => 0
  | x :: r => uptoBulkEntry x + uptoBulkEntries r
def uptoBulkEntry {H : Type} : Lit × DataW H → Nat
  | (.string bytes, d) => bytes.length + uptoBulk d + 1
  | (_, d) => uptoBulk d + 1
 end
def uptoSmall : (H : Type) → List (DataW H) → Bool := fun _ ds => decide (uptoBulkAll ds ≤ 1048576)
def OpenSpec.upto (s : _root_.Go.ChangeSpec) : _root_.Go.OpenSpec := { _root_.Go.OpenSpec.ofChange s with cond := some uptoSmall }

/-- 'sennitlaw07.LinesRun', WHERE WHAT IT READS IS OF BULK AT MOST 1048576: true; the input reads as it did. -/
def linesRunUptoRow : OpenClaim := { program := "ytlbpplibngdncaa", sum := "d963e38b353cf8811975e41e4a2b650a52c8f46381579c9371ecfb9b42c97922", func := "sennit/sennitlaw07.LinesRun", spec := "linesRun", apart := false, narrowed := true }
def LinesRunUptoSaid : Prop := linesRunUptoRow.holds Try.pinned (OpenSpec.upto linesRunSpec)

/-- 'sennitlaw07.LinesVoid', WHERE WHAT IT READS IS OF BULK AT MOST 1048576: true; the input reads as it did. -/
def linesVoidUptoRow : OpenClaim := { program := "ytlbpplibngdncaa", sum := "d963e38b353cf8811975e41e4a2b650a52c8f46381579c9371ecfb9b42c97922", func := "sennit/sennitlaw07.LinesVoid", spec := "linesVoid", apart := false, narrowed := true }
def LinesVoidUptoSaid : Prop := linesVoidUptoRow.holds Try.pinned (OpenSpec.upto linesVoidSpec)

/-- 'sennitlaw07.LinesTime', WHERE WHAT IT READS IS OF BULK AT MOST 1048576: true; the input reads as it did. -/
def linesTimeUptoRow : OpenClaim := { program := "ytlbpplibngdncaa", sum := "d963e38b353cf8811975e41e4a2b650a52c8f46381579c9371ecfb9b42c97922", func := "sennit/sennitlaw07.LinesTime", spec := "linesTime", apart := false, narrowed := true }
def LinesTimeUptoSaid : Prop := linesTimeUptoRow.holds Try.pinned (OpenSpec.upto linesTimeSpec)

/-- 'sennitlaw07.LinesKinds', WHERE WHAT IT READS IS OF BULK AT MOST 1048576: true; the input reads as it did. -/
def linesKindsUptoRow : OpenClaim := { program := "ytlbpplibngdncaa", sum := "d963e38b353cf8811975e41e4a2b650a52c8f46381579c9371ecfb9b42c97922", func := "sennit/sennitlaw07.LinesKinds", spec := "linesKinds", apart := false, narrowed := true }
def LinesKindsUptoSaid : Prop := linesKindsUptoRow.holds Try.pinned (OpenSpec.upto linesKindsSpec)

end Rows
end Go.Proofs.Ytlbpplibngdncaa
