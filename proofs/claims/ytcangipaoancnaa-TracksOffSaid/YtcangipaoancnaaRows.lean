/-
  No cell of these rows narrows 'for every input' (looked for: loops, veiled, ifaces, maps, wideKeys, modest, calm, conditions, laid).
  DERIVED. THE GIVEN ROWS OF THIS SEAT. 10 by the template 'for every input the law returns true; each argument reads behind the call as it read before'; 0 by the template 'total and deterministic' (their statements: YtcangipaoancnaaTotals.lean).
  GIVEN WITH THE SEED: the statements are not yours to turn. If you find one false, say at which input.
  Laid BY PROGRAM, IN A SANDBOX (cutbox-rows.mjs): the forced cells as the released guide's own fill.sh prints them over the translation 995fdaa4a6abd392… (all of the seat's roots in one cut). By AI agents, Wed Nov 11 2026. No macro, syntax, notation, axiom, sorry.
-/
import Derived.Test.YtcangipaoancnaaChecked
import GoSem.Claim
import GoSem.ClaimJoined
import GoSem.ClaimMapViews
import Derived.JoinedTies
import Derived.KernelRfl
namespace Go.Proofs.Ytcangipaoancnaa
/- THE CELL 'sum', in the pinned program and in every row, IS THE sha256 OF THE DUMP (.gsa) THAT YtcangipaoancnaaProg.lean LOADS. Nothing in Lean hashes anything: it is a label: what it is worth is what the hold of that sum in a sandbox is worth. -/
noncomputable def Try.pinned : Pinned := { name := "ytcangipaoancnaa", sum := "995fdaa4a6abd392dc4c15f2abfbf2edede0493bd691ea47752a82fc33115bbe", checked := Try.checked }
namespace Rows
def none {H : Type} : Left H := { results := [], args := [] }

/-- 'sennitlaw14.TracksPlay': WHATEVER THE INPUT: true; the input reads as it did. -/
def tracksPlaySpec : ChangeSpec := { name := "tracksPlay", fn := fun _ => fun
  | [d1, d2, d3] => { results := [.lit (.bool true)], args := [d1, d2, d3] }
  | _ => none }
def tracksPlayRow : OpenClaim := { program := "ytcangipaoancnaa", sum := "995fdaa4a6abd392dc4c15f2abfbf2edede0493bd691ea47752a82fc33115bbe", func := "sennit/sennitlaw14.TracksPlay", spec := "tracksPlay", unfollowed := true, recurses := true, plainKeys := false, apart := false }
def TracksPlaySaid : Prop := tracksPlayRow.holds Try.pinned (OpenSpec.ofChange tracksPlaySpec)

/-- ITS FALSE NEIGHBOUR: 'it returns false'. Refute it at one input. -/
def tracksPlayWrong : ChangeSpec := { name := "tracksPlay", fn := fun _ => fun
  | [d1, d2, d3] => { results := [.lit (.bool false)], args := [d1, d2, d3] }
  | _ => none }
def TracksPlayWrongFalsely : Prop := tracksPlayRow.holds Try.pinned (OpenSpec.ofChange tracksPlayWrong)

/-- 'sennitlaw14.TracksTruth': WHATEVER THE INPUT: true; the input reads as it did. -/
def tracksTruthSpec : ChangeSpec := { name := "tracksTruth", fn := fun _ => fun
  | [d1, d2, d3] => { results := [.lit (.bool true)], args := [d1, d2, d3] }
  | _ => none }
def tracksTruthRow : OpenClaim := { program := "ytcangipaoancnaa", sum := "995fdaa4a6abd392dc4c15f2abfbf2edede0493bd691ea47752a82fc33115bbe", func := "sennit/sennitlaw14.TracksTruth", spec := "tracksTruth", unfollowed := true, recurses := true, plainKeys := false, apart := false }
def TracksTruthSaid : Prop := tracksTruthRow.holds Try.pinned (OpenSpec.ofChange tracksTruthSpec)

/-- ITS FALSE NEIGHBOUR: 'it returns false'. Refute it at one input. -/
def tracksTruthWrong : ChangeSpec := { name := "tracksTruth", fn := fun _ => fun
  | [d1, d2, d3] => { results := [.lit (.bool false)], args := [d1, d2, d3] }
  | _ => none }
def TracksTruthWrongFalsely : Prop := tracksTruthRow.holds Try.pinned (OpenSpec.ofChange tracksTruthWrong)

/-- 'sennitlaw14.TracksOff': WHATEVER THE INPUT: true; the input reads as it did. -/
def tracksOffSpec : ChangeSpec := { name := "tracksOff", fn := fun _ => fun
  | [d1, d2, d3] => { results := [.lit (.bool true)], args := [d1, d2, d3] }
  | _ => none }
def tracksOffRow : OpenClaim := { program := "ytcangipaoancnaa", sum := "995fdaa4a6abd392dc4c15f2abfbf2edede0493bd691ea47752a82fc33115bbe", func := "sennit/sennitlaw14.TracksOff", spec := "tracksOff", unfollowed := true, recurses := true, plainKeys := false, apart := false }
def TracksOffSaid : Prop := tracksOffRow.holds Try.pinned (OpenSpec.ofChange tracksOffSpec)

/-- ITS FALSE NEIGHBOUR: 'it returns false'. Refute it at one input. -/
def tracksOffWrong : ChangeSpec := { name := "tracksOff", fn := fun _ => fun
  | [d1, d2, d3] => { results := [.lit (.bool false)], args := [d1, d2, d3] }
  | _ => none }
def TracksOffWrongFalsely : Prop := tracksOffRow.holds Try.pinned (OpenSpec.ofChange tracksOffWrong)

/-- 'sennitlaw15.AgreesRing': WHATEVER THE INPUT: true; the input reads as it did. -/
def agreesRingSpec : ChangeSpec := { name := "agreesRing", fn := fun _ => fun
  | [d1, d2, d3] => { results := [.lit (.bool true)], args := [d1, d2, d3] }
  | _ => none }
def agreesRingRow : OpenClaim := { program := "ytcangipaoancnaa", sum := "995fdaa4a6abd392dc4c15f2abfbf2edede0493bd691ea47752a82fc33115bbe", func := "sennit/sennitlaw15.AgreesRing", spec := "agreesRing", unfollowed := true, recurses := true, plainKeys := false, apart := false }
def AgreesRingSaid : Prop := agreesRingRow.holds Try.pinned (OpenSpec.ofChange agreesRingSpec)

/-- ITS FALSE NEIGHBOUR: 'it returns false'. Refute it at one input. -/
def agreesRingWrong : ChangeSpec := { name := "agreesRing", fn := fun _ => fun
  | [d1, d2, d3] => { results := [.lit (.bool false)], args := [d1, d2, d3] }
  | _ => none }
def AgreesRingWrongFalsely : Prop := agreesRingRow.holds Try.pinned (OpenSpec.ofChange agreesRingWrong)

/-- 'sennitlaw15.AgreesOff': WHATEVER THE INPUT: true; the input reads as it did. -/
def agreesOffSpec : ChangeSpec := { name := "agreesOff", fn := fun _ => fun
  | [d1, d2, d3] => { results := [.lit (.bool true)], args := [d1, d2, d3] }
  | _ => none }
def agreesOffRow : OpenClaim := { program := "ytcangipaoancnaa", sum := "995fdaa4a6abd392dc4c15f2abfbf2edede0493bd691ea47752a82fc33115bbe", func := "sennit/sennitlaw15.AgreesOff", spec := "agreesOff", unfollowed := true, recurses := true, plainKeys := false, apart := false }
def AgreesOffSaid : Prop := agreesOffRow.holds Try.pinned (OpenSpec.ofChange agreesOffSpec)

/-- ITS FALSE NEIGHBOUR: 'it returns false'. Refute it at one input. -/
def agreesOffWrong : ChangeSpec := { name := "agreesOff", fn := fun _ => fun
  | [d1, d2, d3] => { results := [.lit (.bool false)], args := [d1, d2, d3] }
  | _ => none }
def AgreesOffWrongFalsely : Prop := agreesOffRow.holds Try.pinned (OpenSpec.ofChange agreesOffWrong)

/-- 'sennitlaw16.AgesCommon': WHATEVER THE INPUT: true; the input reads as it did. -/
def agesCommonSpec : ChangeSpec := { name := "agesCommon", fn := fun _ => fun
  | [d1, d2] => { results := [.lit (.bool true)], args := [d1, d2] }
  | _ => none }
def agesCommonRow : OpenClaim := { program := "ytcangipaoancnaa", sum := "995fdaa4a6abd392dc4c15f2abfbf2edede0493bd691ea47752a82fc33115bbe", func := "sennit/sennitlaw16.AgesCommon", spec := "agesCommon", unfollowed := true, recurses := true, plainKeys := false, apart := false }
def AgesCommonSaid : Prop := agesCommonRow.holds Try.pinned (OpenSpec.ofChange agesCommonSpec)

/-- ITS FALSE NEIGHBOUR: 'it returns false'. Refute it at one input. -/
def agesCommonWrong : ChangeSpec := { name := "agesCommon", fn := fun _ => fun
  | [d1, d2] => { results := [.lit (.bool false)], args := [d1, d2] }
  | _ => none }
def AgesCommonWrongFalsely : Prop := agesCommonRow.holds Try.pinned (OpenSpec.ofChange agesCommonWrong)

/-- 'sennitlaw16.AgesPlay': WHATEVER THE INPUT: true; the input reads as it did. -/
def agesPlaySpec : ChangeSpec := { name := "agesPlay", fn := fun _ => fun
  | [d1, d2] => { results := [.lit (.bool true)], args := [d1, d2] }
  | _ => none }
def agesPlayRow : OpenClaim := { program := "ytcangipaoancnaa", sum := "995fdaa4a6abd392dc4c15f2abfbf2edede0493bd691ea47752a82fc33115bbe", func := "sennit/sennitlaw16.AgesPlay", spec := "agesPlay", unfollowed := true, recurses := true, plainKeys := false, apart := false }
def AgesPlaySaid : Prop := agesPlayRow.holds Try.pinned (OpenSpec.ofChange agesPlaySpec)

/-- ITS FALSE NEIGHBOUR: 'it returns false'. Refute it at one input. -/
def agesPlayWrong : ChangeSpec := { name := "agesPlay", fn := fun _ => fun
  | [d1, d2] => { results := [.lit (.bool false)], args := [d1, d2] }
  | _ => none }
def AgesPlayWrongFalsely : Prop := agesPlayRow.holds Try.pinned (OpenSpec.ofChange agesPlayWrong)

/-- 'sennitlaw16.AgesVoid': WHATEVER THE INPUT: true; the input reads as it did. -/
def agesVoidSpec : ChangeSpec := { name := "agesVoid", fn := fun _ => fun
  | [d] => { results := [.lit (.bool true)], args := [d] }
  | _ => none }
def agesVoidRow : OpenClaim := { program := "ytcangipaoancnaa", sum := "995fdaa4a6abd392dc4c15f2abfbf2edede0493bd691ea47752a82fc33115bbe", func := "sennit/sennitlaw16.AgesVoid", spec := "agesVoid", unfollowed := true, recurses := true, plainKeys := false, apart := false }
def AgesVoidSaid : Prop := agesVoidRow.holds Try.pinned (OpenSpec.ofChange agesVoidSpec)

/-- ITS FALSE NEIGHBOUR: 'it returns false'. Refute it at one input. -/
def agesVoidWrong : ChangeSpec := { name := "agesVoid", fn := fun _ => fun
  | [d] => { results := [.lit (.bool false)], args := [d] }
  | _ => none }
def AgesVoidWrongFalsely : Prop := agesVoidRow.holds Try.pinned (OpenSpec.ofChange agesVoidWrong)

/-- 'sennitlaw16.AgesMiddle': WHATEVER THE INPUT: true; the input reads as it did. -/
def agesMiddleSpec : ChangeSpec := { name := "agesMiddle", fn := fun _ => fun
  | [d1, d2] => { results := [.lit (.bool true)], args := [d1, d2] }
  | _ => none }
def agesMiddleRow : OpenClaim := { program := "ytcangipaoancnaa", sum := "995fdaa4a6abd392dc4c15f2abfbf2edede0493bd691ea47752a82fc33115bbe", func := "sennit/sennitlaw16.AgesMiddle", spec := "agesMiddle", unfollowed := true, recurses := true, plainKeys := false, apart := false }
def AgesMiddleSaid : Prop := agesMiddleRow.holds Try.pinned (OpenSpec.ofChange agesMiddleSpec)

/-- ITS FALSE NEIGHBOUR: 'it returns false'. Refute it at one input. -/
def agesMiddleWrong : ChangeSpec := { name := "agesMiddle", fn := fun _ => fun
  | [d1, d2] => { results := [.lit (.bool false)], args := [d1, d2] }
  | _ => none }
def AgesMiddleWrongFalsely : Prop := agesMiddleRow.holds Try.pinned (OpenSpec.ofChange agesMiddleWrong)

/-- 'sennitlaw16.AgesRun': WHATEVER THE INPUT: true; the input reads as it did. -/
def agesRunSpec : ChangeSpec := { name := "agesRun", fn := fun _ => fun
  | [d1, d2] => { results := [.lit (.bool true)], args := [d1, d2] }
  | _ => none }
def agesRunRow : OpenClaim := { program := "ytcangipaoancnaa", sum := "995fdaa4a6abd392dc4c15f2abfbf2edede0493bd691ea47752a82fc33115bbe", func := "sennit/sennitlaw16.AgesRun", spec := "agesRun", unfollowed := true, recurses := true, plainKeys := false, apart := false }
def AgesRunSaid : Prop := agesRunRow.holds Try.pinned (OpenSpec.ofChange agesRunSpec)

/-- ITS FALSE NEIGHBOUR: 'it returns false'. Refute it at one input. -/
def agesRunWrong : ChangeSpec := { name := "agesRun", fn := fun _ => fun
  | [d1, d2] => { results := [.lit (.bool false)], args := [d1, d2] }
  | _ => none }
def AgesRunWrongFalsely : Prop := agesRunRow.holds Try.pinned (OpenSpec.ofChange agesRunWrong)

/- THE SECOND FORM. 'bulk': how many values and letters a reading holds, each counted each time it is reached (what is shared counts as often as it is met; a slice's spare places count too). A statement '..UptoSaid' is the law's where the arguments, and the package variables that the reading takes, are together of bulk at most 1048576: NARROWER than '..Said'. Prove '..Said' where nothing that the law and all that it calls make is longer than what came in: it says more and counts as full. Else prove '..UptoSaid'. A law counts once. -/
mutual
def uptoBulk {H : Type} : DataW H → Nat
  | .lit (.string bytes) => bytes.length + 1
  | .lit _ => 1
  | .nil => 1
  | .ptr d => uptoBulk d + 1
  | .slice elems spare => uptoBulkAll elems + uptoBulkAll spare + 1
  | .agg parts => uptoBulkAll parts + 1
  | .iface _ d => uptoBulk d + 1
  | .map entries => uptoBulkEntries entries + 1
  | .held _ => 1
def uptoBulkAll {H : Type} : List (DataW H) → Nat
  | [] => 0
  | d :: r => uptoBulk d + uptoBulkAll r
def uptoBulkEntries {H : Type} : List (Lit × DataW H) → Nat
  | [] => 0
  | x :: r => uptoBulkEntry x + uptoBulkEntries r
def uptoBulkEntry {H : Type} : Lit × DataW H → Nat
  | (.string bytes, d) => bytes.length + uptoBulk d + 1
  | (_, d) => uptoBulk d + 1
 end
def uptoSmall : (H : Type) → List (DataW H) → Bool := fun _ ds => decide (uptoBulkAll ds ≤ 1048576)
def OpenSpec.upto (s : _root_.Go.ChangeSpec) : _root_.Go.OpenSpec := { _root_.Go.OpenSpec.ofChange s with cond := some uptoSmall }

/-- 'sennitlaw14.TracksPlay', WHERE WHAT IT READS IS OF BULK AT MOST 1048576: true; the input reads as it did. -/
def tracksPlayUptoRow : OpenClaim := { program := "ytcangipaoancnaa", sum := "995fdaa4a6abd392dc4c15f2abfbf2edede0493bd691ea47752a82fc33115bbe", func := "sennit/sennitlaw14.TracksPlay", spec := "tracksPlay", unfollowed := true, recurses := true, plainKeys := false, apart := false, narrowed := true }
def TracksPlayUptoSaid : Prop := tracksPlayUptoRow.holds Try.pinned (OpenSpec.upto tracksPlaySpec)

/-- 'sennitlaw14.TracksTruth', WHERE WHAT IT READS IS OF BULK AT MOST 1048576: true; the input reads as it did. -/
def tracksTruthUptoRow : OpenClaim := { program := "ytcangipaoancnaa", sum := "995fdaa4a6abd392dc4c15f2abfbf2edede0493bd691ea47752a82fc33115bbe", func := "sennit/sennitlaw14.TracksTruth", spec := "tracksTruth", unfollowed := true, recurses := true, plainKeys := false, apart := false, narrowed := true }
def TracksTruthUptoSaid : Prop := tracksTruthUptoRow.holds Try.pinned (OpenSpec.upto tracksTruthSpec)

/-- 'sennitlaw14.TracksOff', WHERE WHAT IT READS IS OF BULK AT MOST 1048576: true; the input reads as it did. -/
def tracksOffUptoRow : OpenClaim := { program := "ytcangipaoancnaa", sum := "995fdaa4a6abd392dc4c15f2abfbf2edede0493bd691ea47752a82fc33115bbe", func := "sennit/sennitlaw14.TracksOff", spec := "tracksOff", unfollowed := true, recurses := true, plainKeys := false, apart := false, narrowed := true }
def TracksOffUptoSaid : Prop := tracksOffUptoRow.holds Try.pinned (OpenSpec.upto tracksOffSpec)

/-- 'sennitlaw15.AgreesRing', WHERE WHAT IT READS IS OF BULK AT MOST 1048576: true; the input reads as it did. -/
def agreesRingUptoRow : OpenClaim := { program := "ytcangipaoancnaa", sum := "995fdaa4a6abd392dc4c15f2abfbf2edede0493bd691ea47752a82fc33115bbe", func := "sennit/sennitlaw15.AgreesRing", spec := "agreesRing", unfollowed := true, recurses := true, plainKeys := false, apart := false, narrowed := true }
def AgreesRingUptoSaid : Prop := agreesRingUptoRow.holds Try.pinned (OpenSpec.upto agreesRingSpec)

/-- 'sennitlaw15.AgreesOff', WHERE WHAT IT READS IS OF BULK AT MOST 1048576: true; the input reads as it did. -/
def agreesOffUptoRow : OpenClaim := { program := "ytcangipaoancnaa", sum := "995fdaa4a6abd392dc4c15f2abfbf2edede0493bd691ea47752a82fc33115bbe", func := "sennit/sennitlaw15.AgreesOff", spec := "agreesOff", unfollowed := true, recurses := true, plainKeys := false, apart := false, narrowed := true }
def AgreesOffUptoSaid : Prop := agreesOffUptoRow.holds Try.pinned (OpenSpec.upto agreesOffSpec)

/-- 'sennitlaw16.AgesCommon', WHERE WHAT IT READS IS OF BULK AT MOST 1048576: true; the input reads as it did. -/
def agesCommonUptoRow : OpenClaim := { program := "ytcangipaoancnaa", sum := "995fdaa4a6abd392dc4c15f2abfbf2edede0493bd691ea47752a82fc33115bbe", func := "sennit/sennitlaw16.AgesCommon", spec := "agesCommon", unfollowed := true, recurses := true, plainKeys := false, apart := false, narrowed := true }
def AgesCommonUptoSaid : Prop := agesCommonUptoRow.holds Try.pinned (OpenSpec.upto agesCommonSpec)

/-- 'sennitlaw16.AgesPlay', WHERE WHAT IT READS IS OF BULK AT MOST 1048576: true; the input reads as it did. -/
def agesPlayUptoRow : OpenClaim := { program := "ytcangipaoancnaa", sum := "995fdaa4a6abd392dc4c15f2abfbf2edede0493bd691ea47752a82fc33115bbe", func := "sennit/sennitlaw16.AgesPlay", spec := "agesPlay", unfollowed := true, recurses := true, plainKeys := false, apart := false, narrowed := true }
def AgesPlayUptoSaid : Prop := agesPlayUptoRow.holds Try.pinned (OpenSpec.upto agesPlaySpec)

/-- 'sennitlaw16.AgesVoid', WHERE WHAT IT READS IS OF BULK AT MOST 1048576: true; the input reads as it did. -/
def agesVoidUptoRow : OpenClaim := { program := "ytcangipaoancnaa", sum := "995fdaa4a6abd392dc4c15f2abfbf2edede0493bd691ea47752a82fc33115bbe", func := "sennit/sennitlaw16.AgesVoid", spec := "agesVoid", unfollowed := true, recurses := true, plainKeys := false, apart := false, narrowed := true }
def AgesVoidUptoSaid : Prop := agesVoidUptoRow.holds Try.pinned (OpenSpec.upto agesVoidSpec)

/-- 'sennitlaw16.AgesMiddle', WHERE WHAT IT READS IS OF BULK AT MOST 1048576: true; the input reads as it did. -/
def agesMiddleUptoRow : OpenClaim := { program := "ytcangipaoancnaa", sum := "995fdaa4a6abd392dc4c15f2abfbf2edede0493bd691ea47752a82fc33115bbe", func := "sennit/sennitlaw16.AgesMiddle", spec := "agesMiddle", unfollowed := true, recurses := true, plainKeys := false, apart := false, narrowed := true }
def AgesMiddleUptoSaid : Prop := agesMiddleUptoRow.holds Try.pinned (OpenSpec.upto agesMiddleSpec)

/-- 'sennitlaw16.AgesRun', WHERE WHAT IT READS IS OF BULK AT MOST 1048576: true; the input reads as it did. -/
def agesRunUptoRow : OpenClaim := { program := "ytcangipaoancnaa", sum := "995fdaa4a6abd392dc4c15f2abfbf2edede0493bd691ea47752a82fc33115bbe", func := "sennit/sennitlaw16.AgesRun", spec := "agesRun", unfollowed := true, recurses := true, plainKeys := false, apart := false, narrowed := true }
def AgesRunUptoSaid : Prop := agesRunUptoRow.holds Try.pinned (OpenSpec.upto agesRunSpec)

end Rows
end Go.Proofs.Ytcangipaoancnaa
