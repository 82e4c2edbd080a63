/-
  What is agreed on, as the document has it, is what is agreed on as the program counts it. Conditions: 4 to 16 nodes.
-/
import Derived.Test.YtdbljggjddnjcaaAg1
namespace Go.Proofs.Ytdbljggjddnjcaa
open Go.RowKit
set_option linter.unusedVariables false
set_option linter.unusedSimpArgs false

/-- What a node's row has of a source; how many nodes but the source have x of it; the last x that more than half have. -/
def hasM (m s : Nat) (F : Nat → Ro) (j : Nat) : He := if j < m then tolM s (F j) else heN
def manM (s : Nat) (H : Nat → He) (x : He) : Nat → Nat
  | 0 => 0
  | j + 1 => if j ≠ s ∧ heE (H j) x = true then manM s H x j + 1 else manM s H x j
def fndM (N s : Nat) (H : Nat → He) : Nat → He
  | 0 => heN
  | k + 1 => if k ≠ s ∧ (H k).i = true ∧ N - 1 < 2 * manM s H (H k) N then H k else fndM N s H k
theorem man_le (s : Nat) (H : Nat → He) (x : He) : ∀ k, manM s H x k ≤ k
  | 0 => Nat.le_refl _
  | k + 1 => by
    have := man_le s H x k
    rw [manM]
    split <;> omega
theorem man_look {m s : Nat} {F : Nat → Ro} {x : He} (hx : x.i = true) : ∀ {k : Nat}, k ≤ m → manM s (hasM m s F) x k = look (mapA s F k) x.c
  | 0, _ => rfl
  | k + 1, hk => by
    have ih := man_look (m := m) (s := s) (F := F) hx (k := k) (by omega)
    have hh : hasM m s F k = tolM s (F k) := by unfold hasM; rw [if_pos (by omega)]
    rw [manM, mapA, hh]
    by_cases hks : k = s
    · rw [if_neg (by simp [hks]), if_neg (by simp [okA, hks]), ih]
    · cases hi : (tolM s (F k)).i with
      | false =>
        rw [if_neg (by simp [heE, hi, hx]), if_neg (by simp [okA, hi]), ih]
      | true =>
        rw [if_pos (show okA s k (tolM s (F k)) = true by simp [okA, hi, hks]), look_inc]
        by_cases hc : (tolM s (F k)).c = x.c
        · rw [if_pos ⟨hks, by simp [heE, hi, hx, ceE_iff, hc]⟩, if_pos ((ceE_iff _ _).2 hc), ih, hc]
        · rw [if_neg (by simp [heE, hi, hx, ceE_iff, hc]), if_neg (fun h => hc ((ceE_iff _ _).1 h)), ih]
theorem man_stay {m s : Nat} {F : Nat → Ro} {x : He} (hx : x.i = true) : ∀ d, manM s (hasM m s F) x (m + d) = manM s (hasM m s F) x m
  | 0 => rfl
  | d + 1 => by
    rw [← Nat.add_assoc, manM, if_neg, man_stay (m := m) (s := s) (F := F) hx d]
    intro h
    have hh : hasM m s F (m + d) = heN := by unfold hasM; rw [if_neg (by omega)]
    rw [hh, heE_iff] at h
    rw [← h.2] at hx
    exact absurd hx (by decide)
theorem man_all {N m s : Nat} {F : Nat → Ro} {x : He} (hx : x.i = true) : manM s (hasM m s F) x N = look (mapA s F (min N m)) x.c := by
  by_cases h : N ≤ m
  · rw [man_look hx h, Nat.min_eq_left h]
  · rw [Nat.min_eq_right (by omega), ← man_look hx (Nat.le_refl m)]
    have := man_stay (s := s) (F := F) (m := m) hx (N - m)
    rwa [show m + (N - m) = N by omega] at this
/-- Two that are not the same have no node in common. -/
theorem man_two {s : Nat} {H : Nat → He} {x y : He} (h : x ≠ y) : ∀ k, manM s H x k + manM s H y k + (if s < k then 1 else 0) ≤ k
  | 0 => by simp [manM]
  | k + 1 => by
    have ih := man_two (s := s) (H := H) h k
    rw [manM, manM]
    by_cases hs : k = s
    · rw [if_neg (by simp [hs]), if_neg (by simp [hs]), if_pos (by omega)]
      rw [if_neg (by omega)] at ih
      omega
    · have hss : (if s < k + 1 then 1 else 0) = (if s < k then 1 else 0) := by
        by_cases h1 : s < k
        · rw [if_pos h1, if_pos (by omega)]
        · rw [if_neg h1, if_neg (by omega)]
      rw [hss]
      by_cases h1 : heE (H k) x = true
      · have h2 : ¬ heE (H k) y = true := fun h2 => h (((heE_iff _ _).1 h1).symm.trans ((heE_iff _ _).1 h2))
        rw [if_pos ⟨hs, h1⟩, if_neg (fun q => h2 q.2)]
        omega
      · rw [if_neg (fun q => h1 q.2)]
        by_cases h2 : heE (H k) y = true
        · rw [if_pos ⟨hs, h2⟩]
          omega
        · rw [if_neg (fun q => h2 q.2)]
          omega
theorem man_one {N s : Nat} {H : Nat → He} {x y : He} (hs : s < N) (h1 : N - 1 < 2 * manM s H x N) (h2 : N - 1 < 2 * manM s H y N) : x = y := Classical.byContradiction fun h => by
  have := man_two (s := s) (H := H) h N
  rw [if_pos hs] at this
  omega
theorem look_mono (s : Nat) (F : Nat → Ro) (c : Ce) (k : Nat) : look (mapA s F k) c ≤ look (mapA s F (k + 1)) c := by
  rw [mapA]
  split
  · rw [look_inc]
    split
    · rename_i h1 h2
      rw [(ceE_iff _ _).1 h2]
      omega
    · omega
  · omega
theorem agS_some {N s : Nat} {F : Nat → Ro} : ∀ {q : Nat} {a : He}, agS N s F q = some a → a.i = true ∧ N - 1 < 2 * look (mapA s F q) a.c
  | 0, _, h => by cases h
  | q + 1, a, h => by
    cases e : agS N s F q with
    | some b =>
      rw [agS, e] at h
      obtain rfl : b = a := by simpa using h
      have ih := agS_some e
      have := look_mono s F b.c q
      exact ⟨ih.1, by omega⟩
    | none =>
      rw [agS, e] at h
      simp only at h
      split at h
      · rename_i hh
        obtain rfl : tolM s (F q) = a := by simpa using h
        refine ⟨?_, hh.2⟩
        have := hh.1
        simp [okA] at this
        exact this.2
      · cases h
theorem agS_none {N s : Nat} {F : Nat → Ro} : ∀ {q : Nat}, agS N s F q = none → ∀ c, 2 * look (mapA s F q) c ≤ N - 1
  | 0, _, c => by simp [mapA, look]
  | q + 1, h, c => by
    cases e : agS N s F q with
    | some b => rw [agS, e] at h; cases h
    | none =>
      have ih := agS_none e c
      rw [agS, e] at h
      simp only at h
      by_cases hok : okA s q (tolM s (F q)) = true
      · have hn : ¬ (N - 1 < 2 * look (mapA s F (q + 1)) (tolM s (F q)).c) := fun h2 => by
          rw [if_pos ⟨hok, h2⟩] at h; cases h
        by_cases hc : ceE (tolM s (F q)).c c = true
        · rw [← (ceE_iff _ _).1 hc]
          omega
        · rw [mapA, if_pos hok, look_inc, if_neg hc]
          exact ih
      · rw [mapA, if_neg hok]
        exact ih
theorem fnd_agM {N m s : Nat} (hN : 4 ≤ N) (hs : s < N) (F : Nat → Ro) : fndM N s (hasM m s F) N = agM N s F (min N m) := by
  unfold agM
  cases e : agS N s F (min N m) with
  | some a =>
    obtain ⟨h1, h2⟩ := agS_some e
    rw [← man_all h1] at h2
    have key : ∀ k, 0 < manM s (hasM m s F) a k → fndM N s (hasM m s F) k = a := by
      intro k
      induction k with
      | zero => intro h; exact absurd h (by simp [manM])
      | succ k ih =>
        intro h
        rw [fndM]
        split
        · rename_i hh
          exact man_one hs hh.2.2 h2
        · rename_i hh
          rw [manM] at h
          by_cases hq : k ≠ s ∧ heE (hasM m s F k) a = true
          · exfalso
            have he := (heE_iff _ _).1 hq.2
            exact hh ⟨hq.1, by rw [he]; exact h1, by rw [he]; exact h2⟩
          · rw [if_neg hq] at h
            exact ih h
    exact key N (by omega)
  | none =>
    have hno := agS_none e
    have key : ∀ k, fndM N s (hasM m s F) k = heN := by
      intro k
      induction k with
      | zero => rfl
      | succ k ih =>
        rw [fndM, if_neg, ih]
        intro hh
        have := hno (hasM m s F k).c
        rw [← man_all hh.2.1] at this
        omega
    exact key N
end Go.Proofs.Ytdbljggjddnjcaa

