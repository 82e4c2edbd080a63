/-
  The contract of the law's SameBytes where the two lists are one: it returns true, and the world is as it was. Conditions: the slices' readings, bytes.
-/
import Derived.Test.YtgmoifbncijhdaaDoorLst
import Derived.Laws.IdiomStrings
import Derived.Laws.BytesString
namespace Go.Proofs.YtgmoifbncijhdaaDoor
open Go.RowKit

def strOf (xs : List Int) : List UInt8 := xs.map fun x => UInt8.ofNat x.toNat
end Go.Proofs.YtgmoifbncijhdaaDoor
