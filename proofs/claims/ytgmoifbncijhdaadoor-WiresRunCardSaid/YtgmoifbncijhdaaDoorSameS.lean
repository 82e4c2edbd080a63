/-
  The contract of the law's SameSyms: whether the two lists are one; nothing that was there has turned. No condition but the slices' readings.
-/
import Derived.Test.YtgmoifbncijhdaaDoorLst
namespace Go.Proofs.YtgmoifbncijhdaaDoor
open Go.RowKit
end Go.Proofs.YtgmoifbncijhdaaDoor
