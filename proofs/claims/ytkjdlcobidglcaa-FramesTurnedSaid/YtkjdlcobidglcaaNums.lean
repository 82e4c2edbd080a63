/-
  The contract of the law's SameNums; SameBytes where the two lists are one, in the form that the other two have. Conditions: the slices' readings, lengths of at most 65536.
-/
import Derived.Test.YtkjdlcobidglcaaSameS
import Derived.Test.YtkjdlcobidglcaaSameB
namespace Go.Proofs.Ytkjdlcobidglcaa
open Go.RowKit
theorem sameBytes_below (A B : Option Addr) (n m c d : Nat) (xs ys : List Int) (w : World) (hx : Lies .u8 w w.heap.size A n xs) (hy : Lies .u8 w w.heap.size B m ys) (hb : ∀ x ∈ xs, 0 ≤ x ∧ x ≤ 255) (he : xs = ys) :
    Calls Try.prog 14 #[.slice A n c, .slice B m d] w fun e w' => e = .returned (.bool true) ∧ Below w.heap.size w w' :=
  (sameBytes_true A B n m c d xs ys w hx hy hb he).mono fun e w' h => ⟨h.1, by rw [← h.2]; exact Below.refl _ _⟩
end Go.Proofs.Ytkjdlcobidglcaa
