/-
  Lists of the three kinds that the laws' book knows, as the program has them: what an element is, and how such a list is cut. No condition but those that are named.
-/
import Derived.Test.YtcangipaoancnaaLst
namespace Go.Proofs.Ytcangipaoancnaa
open Go.RowKit
end Go.Proofs.Ytcangipaoancnaa

