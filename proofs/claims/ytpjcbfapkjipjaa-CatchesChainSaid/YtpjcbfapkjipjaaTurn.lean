/-
  The contract of bits.Turn: the symbols with those at the told places turned, in new memory; nothing that was there has turned. Conditions: the slices' readings, lengths of at most 65536.
-/
import Derived.Test.YtpjcbfapkjipjaaSmall
namespace Go.Proofs.Ytpjcbfapkjipjaa
open Go.RowKit

/-- One place told. -/
def turnAt (xs : List Int) (p : Int) : List Int := if 0 ≤ p ∧ p < xs.length then xs.set p.toNat (turnI (xs.getD p.toNat 0)) else xs
def turnAll (xs : List Int) (ps : List Int) : List Int := ps.foldl turnAt xs
theorem turnAt_length (xs : List Int) (p : Int) : (turnAt xs p).length = xs.length := by unfold turnAt; split <;> simp
theorem turnAll_length (ps : List Int) : ∀ xs : List Int, (turnAll xs ps).length = xs.length := by
  induction ps with
  | nil => intro xs; rfl
  | cons p ps ih => intro xs; show (turnAll (turnAt xs p) ps).length = _; rw [ih, turnAt_length]
theorem turnAll_snoc (xs ps : List Int) (k : Nat) (h : k < ps.length) : turnAll xs (ps.take (k + 1)) = turnAt (turnAll xs (ps.take k)) (ps.getD k 0) := by
  unfold turnAll
  rw [List.take_succ_eq_append_getElem h, List.foldl_append, getD_at ps k h]
  rfl

theorem info_sym : (Try.prog.info? 31).map (fun i => (i.zero, i.size, i.bytes)) = some (some (.int .u8 0), 1, 1) := by kernel_rfl
theorem size_sym : (Try.prog.info? 31).map (·.size) = some 1 := by kernel_rfl

end Go.Proofs.Ytpjcbfapkjipjaa
