/-
  The contract of the reference's Of: the bytes' symbols. Conditions: the slice's reading, bytes, a length of at most 65536.
-/
import Derived.Test.YtpjcbfapkjipjaaRefs
namespace Go.Proofs.Ytpjcbfapkjipjaa
open Go.RowKit

theorem ofL_idx (bs : List Int) (i r : Nat) (hi : i < bs.length) (hr : r < 8) : (ofL bs).getD (8 * i + (8 - (r + 1))) 0 = symI (bs.getD i 0 / 2 ^ r) := by
  rw [ofL_at _ _ (by omega), ofAt, show (8 * i + (8 - (r + 1))) / 8 = i by omega, show 7 - (8 * i + (8 - (r + 1))) % 8 = r by omega]
end Go.Proofs.Ytpjcbfapkjipjaa
