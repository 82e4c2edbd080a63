/-
  Plain facts on symbols, numbers and bytes: what is put is got as it was; lists one behind the other. No program, no condition but those that are named.
-/
import Derived.Test.YtbfgdphfeifglaaDoorBytes
import Derived.Test.YtbfgdphfeifglaaDoorPut
namespace Go.Proofs.YtbfgdphfeifglaaDoor
open Go.RowKit

theorem symI_12 (n : Int) : symI n = 1 ∨ symI n = 2 := by unfold symI; split <;> simp
theorem symI_bit (n : Int) : symI n - 1 = n % 2 := by unfold symI; split <;> omega
theorem wholeL_of (xs : List Int) (h : ∀ x ∈ xs, x = 1 ∨ x = 2) : wholeL xs = true := by
  rw [wholeL, List.all_eq_true]
  intro x hx
  rcases h x hx with rfl | rfl <;> decide
theorem wholeL_ofL (bs : List Int) : wholeL (ofL bs) = true := wholeL_of _ fun x hx => by
  simp only [ofL, List.mem_map] at hx
  obtain ⟨i, _, rfl⟩ := hx
  exact symI_12 _
theorem wholeL_putL (v : Int) (m : Nat) : wholeL (symL v m) = true := wholeL_of _ fun x hx => by
  simp only [symL, List.mem_map] at hx
  obtain ⟨i, _, rfl⟩ := hx
  exact symI_12 _
theorem wholeL_append (xs ys : List Int) : wholeL (xs ++ ys) = (wholeL xs && wholeL ys) := by simp [wholeL]
theorem emod_two (v P : Int) (hP : 0 < P) : 2 * (v / 2 % P) + v % 2 = v % (2 * P) := by
  have h1 : 0 ≤ v / 2 % P := Int.emod_nonneg _ (by omega)
  have h2 : v / 2 % P < P := Int.emod_lt_of_pos _ hP
  have h3 := Int.mul_ediv_add_emod (v / 2) P
  have h4 : v = (2 * (v / 2 % P) + v % 2) + (2 * P) * (v / 2 / P) := by
    have : (2 * P) * (v / 2 / P) = 2 * (P * (v / 2 / P)) := Int.mul_assoc _ _ _
    omega
  have h5 : 0 ≤ 2 * (v / 2 % P) + v % 2 ∧ 2 * (v / 2 % P) + v % 2 < 2 * P := by omega
  revert h4 h5
  generalize 2 * (v / 2 % P) + v % 2 = r
  generalize v / 2 / P = q
  intro h4 h5
  rw [h4, Int.add_mul_emod_self_left, Int.emod_eq_of_lt h5.1 h5.2]
theorem putL_snoc (v : Int) (m : Nat) : symL v (m + 1) = symL (v / 2) m ++ [symI v] := by
  unfold symL
  rw [List.range_succ, List.map_append]
  congr 1
  · apply List.map_congr_left
    intro i hi
    have hi' : i < m := by simpa using hi
    rw [show m + 1 - 1 - i = (m - 1 - i) + 1 by omega, Int.pow_succ, Int.mul_comm, ← Int.ediv_ediv_of_nonneg (by decide)]
  · simp
theorem numL_append (xs : List Int) (x : Int) : numL (xs ++ [x]) = 2 * numL xs + (x - 1) := by simp [numL]
theorem numL_putL (m : Nat) : ∀ v : Int, numL (symL v m) = v % 2 ^ m := by
  induction m with
  | zero => intro v; simp [symL, numL, Int.emod_one]
  | succ m ih =>
    intro v
    rw [putL_snoc, numL_append, ih, symI_bit, emod_two _ _ (Int.pow_pos (by decide)), Int.pow_succ, Int.mul_comm]
theorem ofL_part (bs : List Int) (j : Nat) (h : j < bs.length) : ((ofL bs).drop (8 * j)).take 8 = symL (bs.getD j 0) 8 := by
  apply List.ext_getElem
  · simp [ofL_length, symL_length]; omega
  · intro i h1 h2
    have hi : i < 8 := by simpa [symL_length] using h2
    rw [List.getElem_take, List.getElem_drop]
    simp only [ofL, symL, List.getElem_map, List.getElem_range, ofAt]
    rw [show (8 * j + i) / 8 = j by omega, show 7 - (8 * j + i) % 8 = 8 - 1 - i by omega]
theorem bytesL_ofL (bs : List Int) (hb : ∀ x ∈ bs, 0 ≤ x ∧ x ≤ 255) : bytesL (ofL bs) = bs := by
  apply List.ext_getElem
  · rw [bytesL, byL_length, ofL_length]; omega
  · intro j h1 h2
    have e : (bytesL (ofL bs))[j] = (bytesL (ofL bs)).getD j 0 := (getD_at _ _ h1).symm
    rw [e, bytesL, byL_at _ _ _ (by rw [ofL_length]; omega), byAt, ofL_length, show min (8 * bs.length - 8 * j) 8 = 8 by omega, ofL_part bs j h2, numL_putL, getD_at _ _ h2]
    have := hb bs[j] (List.getElem_mem h2)
    omega
theorem bytesOk_ofL (bs : List Int) : bytesOk (ofL bs) = true := by
  rw [bytesOk, ofL_length, wholeL_ofL]
  simp
theorem numR_putL (v : Int) (m : Nat) (h : m ≤ 64) : numR (symL v m) = v % 2 ^ m := by
  rw [numR, if_pos ⟨by rw [symL_length]; exact h, wholeL_putL v m⟩, numL_putL]
theorem numOk_putL (v : Int) (m : Nat) (h : m ≤ 64) : numOk (symL v m) = true := by
  rw [numOk, symL_length, wholeL_putL]
  simp [h]
theorem wholeL_set0 (xs : List Int) (i : Nat) (h : i < xs.length) : wholeL (xs.set i 0) = false :=
  wholeL_not _ i (by simpa using h) (by rw [getD_at _ _ (by simpa using h), List.getElem_set_self]; decide)
end Go.Proofs.YtbfgdphfeifglaaDoor

