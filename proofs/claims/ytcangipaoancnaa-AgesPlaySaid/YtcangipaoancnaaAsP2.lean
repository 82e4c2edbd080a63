/-
  What is shown: the document's word and the program's window give the same. Condition: the ages are none or within their bounds.
-/
import Derived.Test.YtcangipaoancnaaAsP1
namespace Go.Proofs.Ytcangipaoancnaa
set_option linter.unusedVariables false
set_option linter.unusedSimpArgs false

theorem shM_low {a : Nat → Int} {M : Nat} : ∀ n, -1 ≤ shM a M n
  | 0 => by simp [shM]
  | n + 1 => by
    have := shM_low (a := a) (M := M) n
    unfold shM
    split <;> omega
theorem shM_up {a : Nat → Int} {M : Nat} : ∀ n, ∀ k, k < n → a k ≠ -1 → a k + ((M - 1 - k : Nat) : Int) ≤ shM a M n
  | 0, k, h, _ => absurd h (by omega)
  | n + 1, k, hk, h1 => by
    unfold shM
    by_cases e : k = n
    · subst e
      rw [if_neg h1]
      omega
    · have := shM_up (a := a) (M := M) n k (by omega) h1
      split <;> omega
theorem shM_in {a : Nat → Int} {M : Nat} : ∀ n, shM a M n = -1 ∨ ∃ k, k < n ∧ a k ≠ -1 ∧ shM a M n = a k + ((M - 1 - k : Nat) : Int)
  | 0 => .inl rfl
  | n + 1 => by
    unfold shM
    by_cases h : a n = -1
    · rw [if_pos h]
      rcases shM_in (a := a) (M := M) n with h1 | ⟨k, hk, h1, h2⟩
      · exact .inl h1
      · exact .inr ⟨k, by omega, h1, h2⟩
    · rw [if_neg h]
      by_cases h3 : shM a M n ≤ a n + ((M - 1 - n : Nat) : Int)
      · exact .inr ⟨n, by omega, h, by omega⟩
      · rcases shM_in (a := a) (M := M) n with h1 | ⟨k, hk, h1, h2⟩
        · exact .inl (by omega)
        · exact .inr ⟨k, by omega, h1, by omega⟩
theorem rfM_low {h : Nat → Int} {n : Nat} : ∀ d, -1 ≤ rfM h n d
  | 0 => by simp [rfM]
  | d + 1 => by
    have := rfM_low (h := h) (n := n) d
    unfold rfM
    split <;> omega
theorem rfM_up {h : Nat → Int} {n : Nat} : ∀ d, ∀ k, k < d → 0 ≤ h (n - 1 - k) → h (n - 1 - k) + (k : Int) ≤ rfM h n d
  | 0, k, hk, _ => absurd hk (by omega)
  | d + 1, k, hk, h1 => by
    unfold rfM
    by_cases e : k = d
    · subst e
      split <;> omega
    · have := rfM_up (h := h) (n := n) d k (by omega) h1
      split <;> omega
theorem rfM_in {h : Nat → Int} {n : Nat} : ∀ d, rfM h n d = -1 ∨ ∃ k, k < d ∧ 0 ≤ h (n - 1 - k) ∧ rfM h n d = h (n - 1 - k) + (k : Int)
  | 0 => .inl rfl
  | d + 1 => by
    unfold rfM
    split
    · rename_i hc
      exact .inr ⟨d, by omega, hc.1, rfl⟩
    · rcases rfM_in (h := h) (n := n) d with h1 | ⟨k, hk, h1, h2⟩
      · exact .inl h1
      · exact .inr ⟨k, by omega, h1, h2⟩
theorem sh_rf {h : Nat → Int} {M n : Nat} (hM : 0 < M) (hh : ∀ i, i < n → -1 ≤ h i) : shM (hA h M n) M M = rfM h n (min M n) := by
  have a1 : shM (hA h M n) M M ≤ rfM h n (min M n) := by
    rcases shM_in (a := hA h M n) (M := M) M with e | ⟨k, hk, e1, e2⟩
    · rw [e]; exact rfM_low _
    · rw [e2]
      by_cases hc : n + k < M
      · exact absurd (by unfold hA; rw [if_pos hc]) e1
      · have hv : hA h M n k = h (n - 1 - (M - 1 - k)) := by
          unfold hA
          rw [if_neg hc, show n + k - M = n - 1 - (M - 1 - k) by omega]
        rw [hv] at e1 ⊢
        have := hh (n - 1 - (M - 1 - k)) (by omega)
        exact rfM_up (min M n) (M - 1 - k) (by omega) (by omega)
  have a2 : rfM h n (min M n) ≤ shM (hA h M n) M M := by
    rcases rfM_in (h := h) (n := n) (min M n) with e | ⟨k, hk, e1, e2⟩
    · rw [e]; exact shM_low _
    · rw [e2]
      have hv : hA h M n (M - 1 - k) = h (n - 1 - k) := by
        unfold hA
        rw [if_neg (by omega), show n + (M - 1 - k) - M = n - 1 - k by omega]
      have := shM_up (a := hA h M n) (M := M) M (M - 1 - k) (by omega) (by rw [hv]; omega)
      rw [hv, show M - 1 - (M - 1 - k) = k by omega] at this
      exact this
  omega
theorem orN_rfS {r : Int} (h : -1 ≤ r) : orN r = rfS r := by
  unfold orN rfS agB
  by_cases h1 : 1099511627776 < r
  · rw [if_pos h1, if_neg (by simp; omega)]
  · rw [if_neg h1]
    by_cases h2 : 0 ≤ r
    · rw [if_pos (by simp; omega)]
    · rw [if_neg (by simp; omega)]; omega
/-- What a clock's tick gives, by the history. -/
theorem step_shows {h : Nat → Int} {M k : Nat} (hM : 0 < M) (hh : ∀ i, i < k + 1 → -1 ≤ h i) : orN (shM (pushA (hA h M k) M (h k)) M M) = rfS (rfM h (k + 1) (min M (k + 1))) := by
  rw [shM_congr (hA_push hM) M (Nat.le_refl _), sh_rf hM hh]
  exact orN_rfS (rfM_low _)
end Go.Proofs.Ytcangipaoancnaa

