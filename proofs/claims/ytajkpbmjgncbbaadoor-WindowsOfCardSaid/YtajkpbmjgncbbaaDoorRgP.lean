/-
  The mathematics of track paths: their nodes by their distances from the beginning. No condition; nothing of the program is named here.
-/
import Derived.Test.YtajkpbmjgncbbaaDoorRgM
namespace Go.Proofs.YtajkpbmjgncbbaaDoor
namespace Rg
open Go.RowKit

/-- The distances of a path's nodes, ahead of the last hop m steps from the beginning. -/
def posL : Nat → List Nat
  | 0 => []
  | 1 => [1]
  | (k + 2) => posL k ++ [k + 2]
def nodeAt (n d a : Int) (q : Nat) : Int := (a + sg d q) % n
/-- Is there such a path? -/
def pathB (n d a b h : Int) : Bool := hopB h && decide (h ≤ distM n d a b)
def pathL (n d a b h : Int) : List Int := (posL (distM n d a b - h).toNat).map (nodeAt n d a)

theorem posL_len : ∀ m : Nat, (posL m).length = (m + 1) / 2
  | 0 => rfl
  | 1 => rfl
  | (k + 2) => by rw [posL, List.length_append, posL_len k]; simp; omega
theorem pathL_len (n d a b h : Int) : (pathL n d a b h).length = ((distM n d a b - h).toNat + 1) / 2 := by
  rw [pathL, List.length_map, posL_len]
theorem path_iff {n d a b h : Int} : pathB n d a b h = true ↔ (h = 1 ∨ h = 2) ∧ h ≤ distM n d a b := by
  simp [pathB, hopB]
/-- A path leads between nodes that there are. -/
theorem path_ex {n d a b h : Int} (hp : pathB n d a b h = true) : exB n d [a, b] = true := by
  have := path_iff.1 hp
  by_cases hx : exB n d [a, b] = true
  · exact hx
  · have := dist_no (bfalse hx)
    omega
theorem sg_add (d s t : Int) : sg d (s + t) = sg d s + sg d t := by unfold sg; split <;> omega
theorem sg_sub (d s t : Int) : sg d (s - t) = sg d s - sg d t := by unfold sg; split <;> omega
theorem sg_neg (d s : Int) : sg d (-s) = -sg d s := by unfold sg; split <;> omega
theorem sg_sg (d s : Int) : sg d (sg d s) = s := by unfold sg; split <;> omega
theorem sg_bd (d s : Int) : sg d s = s ∨ sg d s = -s := by unfold sg; split <;> simp
theorem sg_mul (d n k : Int) : sg d (n * k) = n * sg d k := by
  unfold sg; split
  · rfl
  · rw [Int.mul_neg]
/-- Of a number's remainder no more is lost than whole rounds. -/
theorem emod_cong (x n : Int) : ∃ k : Int, x % n = x + n * k := by
  refine ⟨-(x / n), ?_⟩
  rw [Int.emod_def, Int.mul_neg]; omega
theorem cong_emod {x y n : Int} (h : ∃ k : Int, x = y + n * k) : x % n = y % n := by
  obtain ⟨k, rfl⟩ := h
  rw [Int.add_mul_emod_self_left]
/-- A node so many steps from the beginning, some steps back. -/
theorem node_back (n d a : Int) (q t : Nat) (h : t ≤ q) (hn : 4 ≤ n ∧ n ≤ 16 ∧ d < 2) : stepM n d (nodeAt n d a q) (-(t : Int)) = nodeAt n d a (q - t) := by
  have hb : 0 ≤ nodeAt n d a q ∧ nodeAt n d a q < n := mod_bd (a + sg d q) n (by omega)
  rw [step_of _ ⟨hn.1, hn.2.1, hn.2.2, hb.1, hb.2⟩, nodeAt, nodeAt]
  obtain ⟨k, e⟩ := emod_cong (a + sg d q) n
  apply cong_emod
  refine ⟨k, ?_⟩
  rw [e, show ((q - t : Nat) : Int) = (q : Int) - t by omega, sg_sub, sg_neg]
  omega
/-- The end is as far as its distance says. -/
theorem node_end {n d a b : Int} (h : 4 ≤ n ∧ n ≤ 16 ∧ d < 2 ∧ 0 ≤ a ∧ a < n ∧ 0 ≤ b ∧ b < n) : nodeAt n d a (distM n d a b).toNat = b := by
  have hb := dist_in h
  rw [nodeAt, show (((distM n d a b).toNat : Nat) : Int) = distM n d a b by omega, dist_of h]
  obtain ⟨k, e⟩ := emod_cong (sg d (b - a)) n
  rw [e, sg_add, sg_sg, sg_mul, show a + (b - a + n * sg d k) = b + n * sg d k by omega, Int.add_mul_emod_self_left, Int.emod_eq_of_lt (by omega) (by omega)]
theorem nodeAt_in (n d a : Int) (q : Nat) (h : 0 < n) : 0 ≤ nodeAt n d a q ∧ nodeAt n d a q < n := mod_bd _ _ h
theorem node_dist (n d a : Int) (q : Nat) (hn : 4 ≤ n ∧ n ≤ 16 ∧ d < 2 ∧ 0 ≤ a ∧ a < n) (hq : (q : Int) < n) : distM n d a (nodeAt n d a q) = q := by
  have hb := nodeAt_in n d a q (by omega)
  rw [dist_of ⟨hn.1, hn.2.1, hn.2.2.1, hn.2.2.2.1, hn.2.2.2.2, hb.1, hb.2⟩, nodeAt]
  obtain ⟨k, e⟩ := emod_cong (a + sg d q) n
  rw [e, show a + sg d q + n * k - a = sg d q + n * k by omega, sg_add, sg_sg, sg_mul, Int.add_mul_emod_self_left, Int.emod_eq_of_lt (by omega) hq]
end Rg
end Go.Proofs.YtajkpbmjgncbbaaDoor

