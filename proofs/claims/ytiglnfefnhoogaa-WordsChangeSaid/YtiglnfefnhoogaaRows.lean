/-
  No cell of these rows narrows 'for every input' (looked for: loops, veiled, ifaces, maps, wideKeys, modest, calm, conditions, laid).
  DERIVED. THE GIVEN ROWS OF THIS SEAT. 4 by the template 'for every input the law returns true; each argument reads behind the call as it read before'; 0 by the template 'total and deterministic' (their statements: YtiglnfefnhoogaaTotals.lean).
  GIVEN WITH THE SEED: the statements are not yours to turn. If you find one false, say at which input.
  Laid BY PROGRAM, IN A SANDBOX (cutbox-rows.mjs): the forced cells as the released guide's own fill.sh prints them over the translation 6277d155d432ff71… (all of the seat's roots in one cut). By AI agents, Wed Nov 11 2026. No macro, syntax, notation, axiom, sorry.
-/
import Derived.Test.YtiglnfefnhoogaaChecked
import GoSem.Claim
import GoSem.ClaimJoined
import GoSem.ClaimMapViews
import Derived.JoinedTies
import Derived.KernelRfl
namespace Go.Proofs.Ytiglnfefnhoogaa
/- THE CELL 'sum', in the pinned program and in every row, IS THE sha256 OF THE DUMP (.gsa) THAT YtiglnfefnhoogaaProg.lean LOADS. Nothing in Lean hashes anything: it is a label: what it is worth is what the hold of that sum in a sandbox is worth. -/
noncomputable def Try.pinned : Pinned := { name := "ytiglnfefnhoogaa", sum := "6277d155d432ff71ad9ec9ee38e9b566278120a0df12fac5e50f406a21544e94", checked := Try.checked }
namespace Rows
def none {H : Type} : Left H := { results := [], args := [] }

/-- 'sennitlaw13.WordsNorm': WHATEVER THE INPUT: true; the input reads as it did. -/
def wordsNormSpec : ChangeSpec := { name := "wordsNorm", fn := fun _ => fun
  | [d1, d2] => { results := [.lit (.bool true)], args := [d1, d2] }
  | _ => none }
def wordsNormRow : OpenClaim := { program := "ytiglnfefnhoogaa", sum := "6277d155d432ff71ad9ec9ee38e9b566278120a0df12fac5e50f406a21544e94", func := "sennit/sennitlaw13.WordsNorm", spec := "wordsNorm", unfollowed := true, recurses := true, apart := false }
def WordsNormSaid : Prop := wordsNormRow.holds Try.pinned (OpenSpec.ofChange wordsNormSpec)

/-- ITS FALSE NEIGHBOUR: 'it returns false'. Refute it at one input. -/
def wordsNormWrong : ChangeSpec := { name := "wordsNorm", fn := fun _ => fun
  | [d1, d2] => { results := [.lit (.bool false)], args := [d1, d2] }
  | _ => none }
def WordsNormWrongFalsely : Prop := wordsNormRow.holds Try.pinned (OpenSpec.ofChange wordsNormWrong)

/-- 'sennitlaw13.WordsRows': WHATEVER THE INPUT: true; the input reads as it did. -/
def wordsRowsSpec : ChangeSpec := { name := "wordsRows", fn := fun _ => fun
  | [d1, d2, d3] => { results := [.lit (.bool true)], args := [d1, d2, d3] }
  | _ => none }
def wordsRowsRow : OpenClaim := { program := "ytiglnfefnhoogaa", sum := "6277d155d432ff71ad9ec9ee38e9b566278120a0df12fac5e50f406a21544e94", func := "sennit/sennitlaw13.WordsRows", spec := "wordsRows", unfollowed := true, recurses := true, apart := false }
def WordsRowsSaid : Prop := wordsRowsRow.holds Try.pinned (OpenSpec.ofChange wordsRowsSpec)

/-- ITS FALSE NEIGHBOUR: 'it returns false'. Refute it at one input. -/
def wordsRowsWrong : ChangeSpec := { name := "wordsRows", fn := fun _ => fun
  | [d1, d2, d3] => { results := [.lit (.bool false)], args := [d1, d2, d3] }
  | _ => none }
def WordsRowsWrongFalsely : Prop := wordsRowsRow.holds Try.pinned (OpenSpec.ofChange wordsRowsWrong)

/-- 'sennitlaw13.WordsIdle': WHATEVER THE INPUT: true; the input reads as it did. -/
def wordsIdleSpec : ChangeSpec := { name := "wordsIdle", fn := fun _ => fun
  | [d1, d2] => { results := [.lit (.bool true)], args := [d1, d2] }
  | _ => none }
def wordsIdleRow : OpenClaim := { program := "ytiglnfefnhoogaa", sum := "6277d155d432ff71ad9ec9ee38e9b566278120a0df12fac5e50f406a21544e94", func := "sennit/sennitlaw13.WordsIdle", spec := "wordsIdle", unfollowed := true, recurses := true, apart := false }
def WordsIdleSaid : Prop := wordsIdleRow.holds Try.pinned (OpenSpec.ofChange wordsIdleSpec)

/-- ITS FALSE NEIGHBOUR: 'it returns false'. Refute it at one input. -/
def wordsIdleWrong : ChangeSpec := { name := "wordsIdle", fn := fun _ => fun
  | [d1, d2] => { results := [.lit (.bool false)], args := [d1, d2] }
  | _ => none }
def WordsIdleWrongFalsely : Prop := wordsIdleRow.holds Try.pinned (OpenSpec.ofChange wordsIdleWrong)

/-- 'sennitlaw13.WordsChange': WHATEVER THE INPUT: true; the input reads as it did. -/
def wordsChangeSpec : ChangeSpec := { name := "wordsChange", fn := fun _ => fun
  | [d1, d2, d3] => { results := [.lit (.bool true)], args := [d1, d2, d3] }
  | _ => none }
def wordsChangeRow : OpenClaim := { program := "ytiglnfefnhoogaa", sum := "6277d155d432ff71ad9ec9ee38e9b566278120a0df12fac5e50f406a21544e94", func := "sennit/sennitlaw13.WordsChange", spec := "wordsChange", unfollowed := true, recurses := true, apart := false }
def WordsChangeSaid : Prop := wordsChangeRow.holds Try.pinned (OpenSpec.ofChange wordsChangeSpec)

/-- ITS FALSE NEIGHBOUR: 'it returns false'. Refute it at one input. -/
def wordsChangeWrong : ChangeSpec := { name := "wordsChange", fn := fun _ => fun
  | [d1, d2, d3] => { results := [.lit (.bool false)], args := [d1, d2, d3] }
  | _ => none }
def WordsChangeWrongFalsely : Prop := wordsChangeRow.holds Try.pinned (OpenSpec.ofChange wordsChangeWrong)

/- THE SECOND FORM. 'bulk': how many values and letters a reading holds, each counted each time it is reached (what is shared counts as often as it is met; a slice's spare places count too). A statement '..UptoSaid' is the law's where the arguments, and the package variables that the reading takes, are together of bulk at most 1048576: NARROWER than '..Said'. Prove '..Said' where nothing that the law and all that it calls make is longer than what came in: it says more and counts as full. Else prove '..UptoSaid'. A law counts once. -/
mutual
def uptoBulk {H : Type} : DataW H → Nat
  | .lit (.string bytes) => bytes.length + 1
  | .lit _ => 1
  | .nil => 1
  | .ptr d => uptoBulk d + 1
  | .slice elems spare => uptoBulkAll elems + uptoBulkAll spare + 1
  | .agg parts => uptoBulkAll parts + 1
  | .iface _ d => uptoBulk d + 1
  | .map entries => uptoBulkEntries entries + 1
  | .held _ => 1
def uptoBulkAll {H : Type} : List (DataW H) → Nat
  | [] => 0
  | d :: r => uptoBulk d + uptoBulkAll r
def uptoBulkEntries {H : Type} : List (Lit × DataW H) → Nat
  | [] => 0
  | x :: r => uptoBulkEntry x + uptoBulkEntries r
def uptoBulkEntry {H : Type} : Lit × DataW H → Nat
  | (.string bytes, d) => bytes.length + uptoBulk d + 1
  | (_, d) => uptoBulk d + 1
 end
def uptoSmall : (H : Type) → List (DataW H) → Bool := fun _ ds => decide (uptoBulkAll ds ≤ 1048576)
def OpenSpec.upto (s : _root_.Go.ChangeSpec) : _root_.Go.OpenSpec := { _root_.Go.OpenSpec.ofChange s with cond := some uptoSmall }

/-- 'sennitlaw13.WordsNorm', WHERE WHAT IT READS IS OF BULK AT MOST 1048576: true; the input reads as it did. -/
def wordsNormUptoRow : OpenClaim := { program := "ytiglnfefnhoogaa", sum := "6277d155d432ff71ad9ec9ee38e9b566278120a0df12fac5e50f406a21544e94", func := "sennit/sennitlaw13.WordsNorm", spec := "wordsNorm", unfollowed := true, recurses := true, apart := false, narrowed := true }
def WordsNormUptoSaid : Prop := wordsNormUptoRow.holds Try.pinned (OpenSpec.upto wordsNormSpec)

/-- 'sennitlaw13.WordsRows', WHERE WHAT IT READS IS OF BULK AT MOST 1048576: true; the input reads as it did. -/
def wordsRowsUptoRow : OpenClaim := { program := "ytiglnfefnhoogaa", sum := "6277d155d432ff71ad9ec9ee38e9b566278120a0df12fac5e50f406a21544e94", func := "sennit/sennitlaw13.WordsRows", spec := "wordsRows", unfollowed := true, recurses := true, apart := false, narrowed := true }
def WordsRowsUptoSaid : Prop := wordsRowsUptoRow.holds Try.pinned (OpenSpec.upto wordsRowsSpec)

/-- 'sennitlaw13.WordsIdle', WHERE WHAT IT READS IS OF BULK AT MOST 1048576: true; the input reads as it did. -/
def wordsIdleUptoRow : OpenClaim := { program := "ytiglnfefnhoogaa", sum := "6277d155d432ff71ad9ec9ee38e9b566278120a0df12fac5e50f406a21544e94", func := "sennit/sennitlaw13.WordsIdle", spec := "wordsIdle", unfollowed := true, recurses := true, apart := false, narrowed := true }
def WordsIdleUptoSaid : Prop := wordsIdleUptoRow.holds Try.pinned (OpenSpec.upto wordsIdleSpec)

/-- 'sennitlaw13.WordsChange', WHERE WHAT IT READS IS OF BULK AT MOST 1048576: true; the input reads as it did. -/
def wordsChangeUptoRow : OpenClaim := { program := "ytiglnfefnhoogaa", sum := "6277d155d432ff71ad9ec9ee38e9b566278120a0df12fac5e50f406a21544e94", func := "sennit/sennitlaw13.WordsChange", spec := "wordsChange", unfollowed := true, recurses := true, apart := false, narrowed := true }
def WordsChangeUptoSaid : Prop := wordsChangeUptoRow.holds Try.pinned (OpenSpec.upto wordsChangeSpec)

end Rows
end Go.Proofs.Ytiglnfefnhoogaa
