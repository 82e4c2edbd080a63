/-
  The mathematics of a clock that is told its own age of 2N ticks ago. No condition.
-/
import Derived.Test.YtcangipaoancnaaAs8
namespace Go.Proofs.Ytcangipaoancnaa
set_option linter.unusedVariables false
set_option linter.unusedSimpArgs false

/-- Of a history its ages, k ticks through. -/
def hA (W : Nat → Int) (M k : Nat) (j : Nat) : Int := if k + j < M then -1 else W (k + j - M)
theorem shM_congr {a a' : Nat → Int} {M : Nat} (h : ∀ i, i < M → a i = a' i) : ∀ k, k ≤ M → shM a M k = shM a' M k
  | 0, _ => rfl
  | k + 1, hk => by
    unfold shM
    rw [h k (by omega), shM_congr h k (by omega)]
theorem hA_push {W : Nat → Int} {M k : Nat} (hM : 0 < M) : ∀ j, j < M → pushA (hA W M k) M (W k) j = hA W M (k + 1) j := fun j hj => by
  unfold pushA hA
  by_cases h : j + 1 < M
  · rw [if_pos h]
    rw [show k + (j + 1) = k + 1 + j by omega]
  · rw [if_neg h, if_neg (by omega), show k + 1 + j - M = k by omega]
theorem win_push {W : Nat → Int} {M k : Nat} (hM : 0 < M) : ∀ j, j < M → pushA (fun j => W (k + j)) M (W (k + M)) j = W (k + 1 + j) := fun j hj => by
  unfold pushA
  by_cases h : j + 1 < M
  · rw [if_pos h]; show W (k + (j + 1)) = _; rw [show k + (j + 1) = k + 1 + j by omega]
  · rw [if_neg h, show k + 1 + j = k + M by omega]
theorem hA_win {W : Nat → Int} {M : Nat} : ∀ j, j < M → hA W M M j = W (0 + j) := fun j hj => by
  unfold hA
  rw [if_neg (by omega), show M + j - M = 0 + j by omega]
/-- What is shown behind the k-th of the later ticks. -/
def shW (W : Nat → Int) (M k : Nat) : Int := shM (fun j => W (k + 1 + j)) M M
theorem shM_ge {a : Nat → Int} {M : Nat} (ha : ∀ i, i < M → 0 ≤ a i) : ∀ n, n ≤ M → ∀ k, k < n → a k + ((M - 1 - k : Nat) : Int) ≤ shM a M n
  | 0, _, k, h => absurd h (by omega)
  | n + 1, hn, k, hk => by
    unfold shM
    have h1 := ha n (by omega)
    rw [if_neg (by omega)]
    by_cases e : k = n
    · subst e; omega
    · have := shM_ge ha n (by omega) k (by omega)
      omega
theorem shM_at {a : Nat → Int} {M : Nat} (ha : ∀ i, i < M → 0 ≤ a i) : ∀ n, n ≤ M → 0 < n → ∃ k, k < n ∧ shM a M n = a k + ((M - 1 - k : Nat) : Int)
  | 0, _, h => absurd h (by omega)
  | n + 1, hn, _ => by
    unfold shM
    have h1 := ha n (by omega)
    rw [if_neg (by omega)]
    by_cases e : 0 < n
    · obtain ⟨k, hk, h⟩ := shM_at ha n (by omega) e
      by_cases h2 : shM a M n ≤ a n + ((M - 1 - n : Nat) : Int)
      · exact ⟨n, by omega, by omega⟩
      · exact ⟨k, by omega, by omega⟩
    · obtain rfl : n = 0 := by omega
      refine ⟨0, by omega, ?_⟩
      show max (-1 : Int) _ = _
      omega
variable {W : Nat → Int} {M : Nat}
theorem shW_ge (hM : 0 < M) (hW : ∀ t, 0 ≤ W t) (k : Nat) : W (k + M) ≤ shW W M k := by
  have h := shM_ge (a := fun j => W (k + 1 + j)) (M := M) (fun i _ => hW _) M (Nat.le_refl _) (M - 1) (by omega)
  unfold shW
  have e : k + 1 + (M - 1) = k + M := by omega
  simp only [e] at h
  omega
theorem shW_le {X : Int} (hM : 0 < M) (hW : ∀ t, 0 ≤ W t) {k : Nat} (hX : ∀ j, j < M → W (k + 1 + j) ≤ X) : 0 ≤ shW W M k ∧ shW W M k ≤ X + (M : Int) := by
  obtain ⟨j, hj, h⟩ := shM_at (a := fun j => W (k + 1 + j)) (M := M) (fun i _ => hW _) M (Nat.le_refl _) hM
  have h1 := hX j hj
  have h2 := hW (k + 1 + j)
  unfold shW
  omega
theorem shW_succ (hM : 0 < M) (hW : ∀ t, 0 ≤ W t) (hp : ∀ t, W (t + M) = W t + (M : Int)) (k : Nat) : shW W M (k + 1) = shW W M k + 1 := by
  have g1 := fun j hj => shM_ge (a := fun j => W (k + 1 + j)) (M := M) (fun i _ => hW _) M (Nat.le_refl _) j hj
  have g2 := fun j hj => shM_ge (a := fun j => W (k + 1 + 1 + j)) (M := M) (fun i _ => hW _) M (Nat.le_refl _) j hj
  obtain ⟨j1, hj1, h1⟩ := shM_at (a := fun j => W (k + 1 + j)) (M := M) (fun i _ => hW _) M (Nat.le_refl _) hM
  obtain ⟨j2, hj2, h2⟩ := shM_at (a := fun j => W (k + 1 + 1 + j)) (M := M) (fun i _ => hW _) M (Nat.le_refl _) hM
  unfold shW
  have a1 : shM (fun j => W (k + 1 + 1 + j)) M M ≤ shM (fun j => W (k + 1 + j)) M M + 1 := by
    rw [h2]
    by_cases e : j2 + 1 < M
    · have := g1 (j2 + 1) e
      rw [show k + 1 + (j2 + 1) = k + 1 + 1 + j2 by omega] at this
      omega
    · have := g1 0 hM
      rw [show k + 1 + 1 + j2 = k + 1 + 0 + M by omega, hp]
      omega
  have a2 : shM (fun j => W (k + 1 + j)) M M + 1 ≤ shM (fun j => W (k + 1 + 1 + j)) M M := by
    rw [h1]
    by_cases e : 0 < j1
    · have := g2 (j1 - 1) (by omega)
      rw [show k + 1 + 1 + (j1 - 1) = k + 1 + j1 by omega] at this
      omega
    · obtain rfl : j1 = 0 := by omega
      have := g2 (M - 1) (by omega)
      rw [show k + 1 + 1 + (M - 1) = k + 1 + 0 + M by omega, hp] at this
      omega
  omega
/-- The ages, tick by tick. -/
def wtA (C : Nat → Int) (M t : Nat) : Int := C (t % M) + ((M * (t / M + 1) : Nat) : Int)
theorem wtA_first {C : Nat → Int} {t : Nat} (h : t < M) : wtA C M t = C t + (M : Int) := by
  unfold wtA
  rw [Nat.mod_eq_of_lt h, Nat.div_eq_of_lt h, Nat.zero_add, Nat.mul_one]
theorem wtA_next {C : Nat → Int} (hM : 0 < M) (t : Nat) : wtA C M (t + M) = wtA C M t + (M : Int) := by
  unfold wtA
  rw [Nat.add_mod_right, Nat.add_div_right _ hM, Nat.mul_succ M (t / M + 1)]
  omega
theorem wtA_in {C : Nat → Int} {X : Int} (hM : 0 < M) (hC : ∀ j, j < M → 0 ≤ C j ∧ C j ≤ X) (t : Nat) : 0 ≤ wtA C M t ∧ wtA C M t ≤ X + ((t + M : Nat) : Int) := by
  unfold wtA
  have h1 := hC (t % M) (Nat.mod_lt _ hM)
  have h2 : M * (t / M + 1) ≤ t + M := by rw [Nat.mul_succ]; have := Nat.mul_div_le t M; omega
  omega
end Go.Proofs.Ytcangipaoancnaa

