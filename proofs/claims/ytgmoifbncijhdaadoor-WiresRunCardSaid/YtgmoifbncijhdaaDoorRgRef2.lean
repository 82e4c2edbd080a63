/-
  The contracts of the document's answers for rings that leave memory alone, continued: Distance, Place, Ends, Link, Source: what the mathematics says. Conditions: the numbers are of their kinds.
-/
import Derived.Test.YtgmoifbncijhdaaDoorRgRef
namespace Go.Proofs.YtgmoifbncijhdaaDoor
open Go.RowKit Rg

theorem ex2_cases {n d x y : Int} (h : exB n d [x, y] = false) : isB n d = false ∨ (isB n d = true ∧ x < 0) ∨ (isB n d = true ∧ 0 ≤ x ∧ n ≤ x) ∨ (isB n d = true ∧ 0 ≤ x ∧ x < n ∧ y < 0) ∨ (isB n d = true ∧ 0 ≤ x ∧ x < n ∧ 0 ≤ y ∧ n ≤ y) := by
  by_cases hb : isB n d = true
  · have := isB_iff.1 hb
    by_cases h0 : 0 ≤ x ∧ x < n ∧ 0 ≤ y ∧ y < n
    · rw [ex2.2 (by omega)] at h; cases h
    · simp only [hb, true_and]
      omega
  · exact .inl (bfalse hb)
theorem node_hit {n d a b : Int} {k : Nat} (hn : 4 ≤ n ∧ n ≤ 16 ∧ d < 2 ∧ 0 ≤ a ∧ a < n ∧ 0 ≤ b ∧ b < n) (hk : (k : Int) ≤ distM n d a b) : nodeAt n d a k = b ↔ (k : Int) = distM n d a b := by
  have hD := dist_in hn
  constructor
  · intro h
    have e := node_dist n d a k (by omega) (by omega)
    rw [h] at e
    exact e.symm
  · intro h
    have e := node_end hn
    rw [← h, Int.toNat_natCast] at e
    exact e

end Go.Proofs.YtgmoifbncijhdaaDoor
