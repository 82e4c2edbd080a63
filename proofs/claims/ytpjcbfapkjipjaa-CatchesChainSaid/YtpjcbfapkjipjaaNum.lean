/-
  The contract of bits.Num: the number whose symbols these are, and true; 0 and false if they are not whole, or more than 64. Conditions: the slice's reading, a length of at most 65536.
-/
import Derived.Test.YtpjcbfapkjipjaaTurn
namespace Go.Proofs.Ytpjcbfapkjipjaa
open Go.RowKit

def numL (xs : List Int) : Int := xs.foldl (fun n x => 2 * n + (x - 1)) 0
theorem numL_snoc (xs : List Int) (k : Nat) (h : k < xs.length) : numL (xs.take (k + 1)) = 2 * numL (xs.take k) + (xs.getD k 0 - 1) := by
  unfold numL
  rw [List.take_succ_eq_append_getElem h, List.foldl_append, getD_at xs k h]
  rfl
theorem wholeL_at (xs : List Int) (k : Nat) (h : k < xs.length) (hw : wholeL xs = true) : xs.getD k 0 = 1 ∨ xs.getD k 0 = 2 := by
  rw [wholeL, List.all_eq_true] at hw
  have := hw xs[k] (List.getElem_mem h)
  rw [getD_at xs k h]
  simpa [wholeB] using this
theorem numL_bd (xs : List Int) (hw : wholeL xs = true) : ∀ k, k ≤ xs.length → 0 ≤ numL (xs.take k) ∧ numL (xs.take k) < 2 ^ k := by
  intro k
  induction k with
  | zero => intro _; simp [numL]
  | succ k ih =>
    intro h
    have h1 := ih (by omega)
    have h2 := wholeL_at xs k (by omega) hw
    rw [numL_snoc xs k (by omega), Int.pow_succ]
    omega
theorem or_low (n x : Int) (h0 : 0 ≤ n) (h1 : n < 9223372036854775808) (h2 : 0 ≤ x) (h3 : x ≤ 1) : bits .or .u64 (n * 2) x = 2 * n + x := by
  rw [u64_or _ _ (by omega) (by omega) h2 (by omega), nat_join 1 _ _ (by omega) (by omega)]
  omega
/-- What Num answers. -/
def numR (xs : List Int) : Int := if xs.length ≤ 64 ∧ wholeL xs = true then numL xs else 0
def numOk (xs : List Int) : Bool := decide (xs.length ≤ 64) && wholeL xs

end Go.Proofs.Ytpjcbfapkjipjaa
