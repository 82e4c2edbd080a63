/-
  The mathematics of ages: which one stands at a place of a sorted list. No condition.
-/
import Derived.Test.YtcangipaoancnaaAs6
namespace Go.Proofs.Ytcangipaoancnaa
set_option linter.unusedVariables false
set_option linter.unusedSimpArgs false

def ltN (L : List Int) (x : Int) : Nat := L.countP fun y => decide (y < x)
def leN (L : List Int) (x : Int) : Nat := L.countP fun y => decide (y ≤ x)
theorem srt_perm (xs : List Int) : (srt xs).Perm xs := List.mergeSort_perm _ _
theorem srt_sorted (xs : List Int) : (srt xs).Pairwise (· ≤ ·) := by
  have h := List.pairwise_mergeSort (le := fun x y : Int => decide (x ≤ y)) (fun a b c h1 h2 => by simp at *; omega) (fun a b => by simp; omega) xs
  exact h.imp fun h => by simpa using h
theorem sorted_at {x : Int} : ∀ (L : List Int) (p : Nat), L.Pairwise (· ≤ ·) → ltN L x ≤ p → p < leN L x → L[p]? = some x
  | [], p, _, _, h => by simp [leN] at h
  | y :: ys, p, hs, h1, h2 => by
    obtain ⟨hy, hs'⟩ := List.pairwise_cons.1 hs
    unfold ltN leN at *
    rw [List.countP_cons] at h1 h2
    rcases Int.lt_trichotomy y x with h | h | h
    · have e1 : decide (y < x) = true := decide_eq_true h
      have e2 : decide (y ≤ x) = true := decide_eq_true (by omega)
      rw [e1] at h1; rw [e2] at h2
      simp only [if_true] at h1 h2
      obtain ⟨q, rfl⟩ : ∃ q, p = q + 1 := ⟨p - 1, by omega⟩
      rw [List.getElem?_cons_succ]
      exact sorted_at ys q hs' (by unfold ltN; omega) (by unfold leN; omega)
    · subst h
      cases p with
      | zero => rfl
      | succ q =>
        rw [List.getElem?_cons_succ]
        have e2 : decide (y ≤ y) = true := decide_eq_true (Int.le_refl _)
        rw [e2] at h2
        simp only [if_true] at h2
        have h0 : ys.countP (fun z => decide (z < y)) = 0 := by
          rw [List.countP_eq_zero]
          intro z hz
          have := hy z hz
          simp; omega
        exact sorted_at ys q hs' (by unfold ltN; omega) (by unfold leN; omega)
    · exfalso
      have e2 : decide (y ≤ x) = false := decide_eq_false (by omega)
      have h0 : ys.countP (fun z => decide (z ≤ x)) = 0 := by
        rw [List.countP_eq_zero]
        intro z hz
        have := hy z hz
        simp; omega
      rw [e2, h0] at h2
      simp at h2
theorem sorted_counts : ∀ (L : List Int) (p : Nat) (x : Int), L.Pairwise (· ≤ ·) → L[p]? = some x → ltN L x ≤ p ∧ p < leN L x
  | [], p, x, _, h => by simp at h
  | y :: ys, p, x, hs, h => by
    obtain ⟨hy, hs'⟩ := List.pairwise_cons.1 hs
    unfold ltN leN
    rw [List.countP_cons, List.countP_cons]
    cases p with
    | zero =>
      obtain rfl : y = x := by simpa using h
      have e1 : decide (y < y) = false := decide_eq_false (by omega)
      have e2 : decide (y ≤ y) = true := decide_eq_true (Int.le_refl _)
      have h0 : ys.countP (fun z => decide (z < y)) = 0 := by
        rw [List.countP_eq_zero]
        intro z hz
        have := hy z hz
        simp; omega
      rw [e1, e2, h0]
      simp
    | succ q =>
      rw [List.getElem?_cons_succ] at h
      obtain ⟨a1, a2⟩ := sorted_counts ys q x hs' h
      unfold ltN at a1
      unfold leN at a2
      have hyx : y ≤ x := hy x (List.mem_of_getElem? h)
      have e2 : decide (y ≤ x) = true := decide_eq_true hyx
      rw [e2]
      simp only [if_true]
      refine ⟨?_, by omega⟩
      split <;> omega
/-- The one at a place of the sorted list, by how many are lesser, and how many not greater. -/
theorem srt_at {L : List Int} {x : Int} {p : Nat} (h1 : ltN L x ≤ p) (h2 : p < leN L x) : (srt L)[p]? = some x := by
  refine sorted_at (srt L) p (srt_sorted L) ?_ ?_
  · unfold ltN at *; rw [(srt_perm L).countP_eq]; exact h1
  · unfold leN at *; rw [(srt_perm L).countP_eq]; exact h2
theorem srt_eq {L M : List Int} (h : L.Perm M) : srt L = srt M := by
  apply List.ext_getElem?
  intro p
  by_cases hp : p < (srt M).length
  · obtain ⟨x, hx⟩ : ∃ x, (srt M)[p]? = some x := ⟨_, List.getElem?_eq_getElem hp⟩
    rw [hx]
    have hs := srt_sorted M
    have a1 : ltN (srt M) x ≤ p ∧ p < leN (srt M) x := sorted_counts (srt M) p x hs hx
    refine srt_at ?_ ?_
    · have := a1.1; unfold ltN at *; rw [h.countP_eq, ← (srt_perm M).countP_eq]; exact this
    · have := a1.2; unfold leN at *; rw [h.countP_eq, ← (srt_perm M).countP_eq]; exact this
  · have e : (srt L).length = (srt M).length := by rw [srt_len, srt_len, h.length_eq]
    rw [List.getElem?_eq_none (by omega), List.getElem?_eq_none (by omega)]
end Go.Proofs.Ytcangipaoancnaa

