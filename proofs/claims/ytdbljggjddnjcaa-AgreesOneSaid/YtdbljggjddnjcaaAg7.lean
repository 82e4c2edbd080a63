/-
  What is agreed on where all but one hold the same: the truth, and of that one what is held of it. Conditions: 4 to 16 nodes.
-/
import Derived.Test.YtdbljggjddnjcaaAg1
namespace Go.Proofs.Ytdbljggjddnjcaa
open Go.RowKit
set_option linter.unusedVariables false
set_option linter.unusedSimpArgs false

/-- What is agreed on of a source rests on what the others tell of it. -/
theorem mapA_congr {s : Nat} {F G : Nat → Ro} : ∀ {m : Nat}, (∀ k, k < m → k ≠ s → tolM s (F k) = tolM s (G k)) → mapA s F m = mapA s G m
  | 0, _ => rfl
  | m + 1, h => by
    rw [mapA, mapA, mapA_congr fun k hk hs => h k (by omega) hs]
    by_cases e : m = s
    · simp [okA, e]
    · rw [h m (by omega) e]
theorem agS_congr {N s : Nat} {F G : Nat → Ro} : ∀ {m : Nat}, (∀ k, k < m → k ≠ s → tolM s (F k) = tolM s (G k)) → agS N s F m = agS N s G m
  | 0, _ => rfl
  | m + 1, h => by
    rw [agS, agS, agS_congr fun k hk hs => h k (by omega) hs, mapA_congr h]
    by_cases e : m = s
    · simp [okA, e]
    · rw [h m (by omega) e]
theorem agM_congr {N s m : Nat} {F G : Nat → Ro} (h : ∀ k, k < m → k ≠ s → tolM s (F k) = tolM s (G k)) : agM N s F m = agM N s G m := by
  unfold agM
  rw [agS_congr h]

/-- How many nodes below m, but for s and b, there are. -/
def oth (s b : Nat) : Nat → Nat
  | 0 => 0
  | m + 1 => if m = s ∨ m = b then oth s b m else oth s b m + 1
theorem oth_le (s b : Nat) : ∀ m, m ≤ oth s b m + (if s < m then 1 else 0) + (if b < m then 1 else 0)
  | 0 => Nat.zero_le _
  | m + 1 => by
    have ih := oth_le s b m
    rw [oth]
    by_cases e : m = s ∨ m = b
    · rw [if_pos e]
      split at ih <;> split at ih <;> split <;> split <;> omega
    · rw [if_neg e]
      split at ih <;> split at ih <;> split <;> split <;> omega
/-- The truth's count behind the first m nodes. -/
theorem look_truth {s b : Nat} {F : Nat → Ro} {T : He} (hi : T.i = true) : ∀ {m : Nat}, (∀ k, k < m → k ≠ s → k ≠ b → tolM s (F k) = T) → oth s b m ≤ look (mapA s F m) T.c
  | 0, _ => Nat.zero_le _
  | m + 1, h => by
    have ih := look_truth hi (m := m) fun k hk => h k (by omega)
    rw [oth, mapA]
    by_cases e : m = s
    · rw [if_pos (.inl e)]
      rw [if_neg (by simp [okA, e])]
      exact ih
    · by_cases eb : m = b
      · rw [if_pos (.inr eb)]
        split
        · rw [look_inc]
          split
          · rename_i h1 h2
            rw [ceE_iff] at h2
            rw [h2]
            omega
          · exact ih
        · exact ih
      · rw [if_neg (by omega), h m (by omega) e eb, if_pos (by simp [okA, e, hi]), look_inc, if_pos (by rw [ceE_iff])]
        omega
/-- Whatever else is told is told once at most, by the faulty one. -/
theorem look_false {s b : Nat} {F : Nat → Ro} {T : He} {c : Ce} (hc : T.i = true → c ≠ T.c) : ∀ {m : Nat}, (∀ k, k < m → k ≠ s → k ≠ b → tolM s (F k) = T) → look (mapA s F m) c ≤ if b < m then 1 else 0
  | 0, _ => Nat.zero_le _
  | m + 1, h => by
    have ih := look_false hc (m := m) fun k hk => h k (by omega)
    rw [mapA]
    by_cases e : okA s m (tolM s (F m)) = true
    · rw [if_pos e, look_inc]
      have hs : m ≠ s := fun hs => by simp [okA, hs] at e
      by_cases eb : m = b
      · subst eb
        rw [if_neg (Nat.lt_irrefl _)] at ih
        rw [if_pos (Nat.lt_succ_self _)]
        split
        · rename_i h1
          rw [ceE_iff] at h1
          rw [h1]; omega
        · omega
      · have hT := h m (by omega) hs eb
        rw [hT] at e ⊢
        have hi : T.i = true := by simpa [okA, hs] using e
        rw [if_neg (fun h1 => hc hi ((ceE_iff _ _).1 h1).symm)]
        refine Nat.le_trans ih ?_
        split <;> split <;> omega
    · rw [if_neg e]
      refine Nat.le_trans ih ?_
      split <;> split <;> omega
/-- If there is an answer, it is the truth. -/
theorem agS_truth {N s b : Nat} (hN : 4 ≤ N) {F : Nat → Ro} {T : He} : ∀ {m : Nat}, (∀ k, k < m → k ≠ s → k ≠ b → tolM s (F k) = T) → ∀ a, agS N s F m = some a → T.i = true ∧ a = T
  | 0, _, a, ha => by cases ha
  | m + 1, h, a, ha => by
    rw [agS] at ha
    cases e : agS N s F m with
    | some a' =>
      rw [e] at ha
      obtain rfl : a' = a := by simpa using ha
      exact agS_truth hN (fun k hk => h k (by omega)) _ e
    | none =>
      rw [e] at ha
      simp only at ha
      split at ha
      · rename_i hh
        obtain ⟨ho, hl⟩ := hh
        have ea : tolM s (F m) = a := by simpa using ha
        rw [ea] at ho hl
        have hs : m ≠ s := fun hs => by simp [okA, hs] at ho
        have hai : a.i = true := by simpa [okA, hs] using ho
        by_cases hc : T.i = true → a.c ≠ T.c
        · have := look_false (c := a.c) hc h
          split at this <;> omega
        · have hc' : T.i = true ∧ a.c = T.c := by
            rcases Classical.em (T.i = true) with h1 | h1
            · exact ⟨h1, Classical.byContradiction fun h2 => hc fun _ => h2⟩
            · exact absurd (fun h2 => absurd h2 h1) hc
          refine ⟨hc'.1, ?_⟩
          obtain ⟨ai, ac⟩ := a
          obtain ⟨ti, tc⟩ := T
          simp only at hai hc'
          rw [hai, hc'.1, hc'.2]
      · cases ha
/-- All but one hold the same: that is what is agreed on. -/
theorem agM_truth {N s b : Nat} (hN : 4 ≤ N) (hs : s < N) (hb : b < N) (hsb : s ≠ b) {F : Nat → Ro} {T : He} (hT : T.i = false → T = heN) (h : ∀ k, k < N → k ≠ s → k ≠ b → tolM s (F k) = T) : agM N s F N = T := by
  unfold agM
  cases e : agS N s F N with
  | some a => exact (agS_truth hN h a e).2
  | none =>
    cases hi : T.i with
    | false => exact (hT hi).symm
    | true =>
      exfalso
      -- the last node that is neither s nor b
      have hl : ∃ k, k < N ∧ k ≠ s ∧ k ≠ b ∧ ∀ j, k < j → j < N → j = s ∨ j = b := by
        by_cases h1 : N - 1 ≠ s ∧ N - 1 ≠ b
        · exact ⟨N - 1, by omega, h1.1, h1.2, fun j _ _ => by omega⟩
        · by_cases h2 : N - 2 ≠ s ∧ N - 2 ≠ b
          · exact ⟨N - 2, by omega, h2.1, h2.2, fun j _ _ => by omega⟩
          · exact ⟨N - 3, by omega, by omega, by omega, fun j _ _ => by omega⟩
      obtain ⟨k, hk, hks, hkb, hla⟩ := hl
      have hk1 : agS N s F (k + 1) = none := by
        cases e1 : agS N s F (k + 1) with
        | none => rfl
        | some a => rw [agS_stays e1 (by omega)] at e; cases e
      have hk0 : agS N s F k = none := by
        cases e1 : agS N s F k with
        | none => rfl
        | some a => rw [agS_stays e1 (by omega)] at hk1; cases hk1
      rw [agS, hk0] at hk1
      simp only at hk1
      have ht := h k hk hks hkb
      have hlk := look_truth hi (m := k + 1) fun j hj => h j (by omega)
      have ho := oth_le s b (k + 1)
      have hcnt : N - 1 < 2 * oth s b (k + 1) := by
        have key : N ≤ oth s b (k + 1) + 2 := by
          have hoN : N ≤ oth s b N + 2 := by
            have := oth_le s b N
            rw [if_pos hs, if_pos hb] at this
            omega
          have hsame : ∀ d, k + 1 + d ≤ N → oth s b (k + 1 + d) = oth s b (k + 1) := by
            intro d
            induction d with
            | zero => intro _; rfl
            | succ d ih =>
              intro hd
              rw [← Nat.add_assoc, oth, if_pos (hla _ (by omega) (by omega)), ih (by omega)]
          have := hsame (N - (k + 1)) (by omega)
          rw [show k + 1 + (N - (k + 1)) = N by omega] at this
          omega
        omega
      rw [ht, if_pos ⟨by simp [okA, hks, hi], by omega⟩] at hk1
      cases hk1
end Go.Proofs.Ytdbljggjddnjcaa

