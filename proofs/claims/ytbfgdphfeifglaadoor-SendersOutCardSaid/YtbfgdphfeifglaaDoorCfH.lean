/-
  What follows of a config that may be: each pair's two halves, partners, a pair's next slot. No condition but those that are named; nothing of the program is named here.
-/
import Derived.Test.YtbfgdphfeifglaaDoorNet3
namespace Go.Proofs.YtbfgdphfeifglaaDoor
open Go.RowKit Rg

/-- A pair's second half. -/
theorem second_of {N a : Int} (hN : 4 ≤ N ∧ N ≤ 16) (ha : 0 ≤ a ∧ a < N) : stepM N 0 a 1 = (a + 1) % N := by
  rw [step_of 1 ⟨hN.1, hN.2, by omega, ha.1, ha.2⟩, sg0]
theorem mod1 {N a : Int} (hN : 4 ≤ N) (ha : 0 ≤ a ∧ a < N) : ((a + 1) % N = a + 1 ∧ a + 1 < N) ∨ ((a + 1) % N = 0 ∧ a + 1 = N) := by
  rcases mod_near N (a + 1) (by omega) (by omega) with e | e | e <;> omega
theorem hit_iff {N x a : Int} (hN : 4 ≤ N ∧ N ≤ 16) (ha : 0 ≤ a ∧ a < N) : hitB N x a = true ↔ x = a ∨ x = (a + 1) % N := by
  rw [hitB, second_of hN ha]; simp
section
variable {N : Int} {P : List Int}
theorem okP_at (h : okP N P) (j : Nat) (hj : j < P.length) : 0 ≤ P.getD j 0 ∧ P.getD j 0 < N := h.1 _ (by rw [getD_at P j hj]; exact List.getElem_mem _)
theorem okP_two (h : okP N P) (i j : Nat) (hi : i < j) (hj : j < P.length) : P.getD i 0 + 2 ≤ P.getD j 0 ∧ P.getD j 0 + 2 ≤ P.getD i 0 + N := by
  rw [getD_at P i (by omega), getD_at P j hj]
  exact (List.pairwise_iff_getElem.1 h.2) i j (by omega) hj hi
/-- No node is in two pairs. -/
theorem hit_one (hN : 4 ≤ N ∧ N ≤ 16) (h : okP N P) {x : Int} {i j : Nat} (hi : i < P.length) (hj : j < P.length) (h1 : hitB N x (P.getD i 0) = true) (h2 : hitB N x (P.getD j 0) = true) : i = j := by
  have a1 := okP_at h i hi
  have a2 := okP_at h j hj
  rw [hit_iff hN a1] at h1
  rw [hit_iff hN a2] at h2
  have m1 := mod1 hN.1 a1
  have m2 := mod1 hN.1 a2
  rcases Nat.lt_trichotomy i j with q | q | q
  · have := okP_two h i j q hj; omega
  · exact q
  · have := okP_two h j i q hi; omega
theorem pair_cases (N : Int) (P : List Int) (x : Int) : (pairM N P x = -1 ∧ ∀ j, j < P.length → hitB N x (P.getD j 0) = false) ∨ ∃ q : Nat, q < P.length ∧ pairM N P x = q ∧ hitB N x (P.getD q 0) = true := by
  unfold pairM
  cases h : P.findIdx? (hitB N x) with
  | none =>
    left
    rw [List.findIdx?_eq_none_iff] at h
    exact ⟨rfl, fun j hj => by rw [getD_at P j hj]; exact h _ (List.getElem_mem _)⟩
  | some q =>
    right
    rw [List.findIdx?_eq_some_iff_getElem] at h
    obtain ⟨hq, h1, _⟩ := h
    exact ⟨q, hq, rfl, by rw [getD_at P q hq]; exact h1⟩
theorem pair_of (hN : 4 ≤ N ∧ N ≤ 16) (h : okP N P) {x : Int} {q : Nat} (hq : q < P.length) (h1 : hitB N x (P.getD q 0) = true) : pairM N P x = q := by
  rcases pair_cases N P x with ⟨_, h0⟩ | ⟨j, hj, e, h2⟩
  · rw [h0 q hq] at h1; cases h1
  · rw [e, hit_one hN h hj hq h2 h1]
theorem atM_nat (xs : List Int) (q : Nat) (hq : q < xs.length) : atM xs q = xs.getD q 0 := by
  rw [atM, if_pos (by omega)]; simp
theorem atM_neg (xs : List Int) : atM xs (-1) = -1 := by rw [atM, if_neg (by omega)]
/-- No pair: no partner. -/
theorem part_none {x : Int} (hx : 0 ≤ x) (h : pairM N P x = -1) : partM N P x = -1 := by
  rw [partM, h, atM_neg, if_neg (by omega)]
/-- A half's partner is the other half, and it is that one's. -/
theorem part_some (hN : 4 ≤ N ∧ N ≤ 16) (h : okP N P) {x : Int} {q : Nat} (hq : q < P.length) (h1 : hitB N x (P.getD q 0) = true) :
    ∃ k : Int, partM N P x = k ∧ pairM N P k = q ∧ partM N P k = x ∧ ((x = P.getD q 0 ∧ k = (P.getD q 0 + 1) % N) ∨ (x = (P.getD q 0 + 1) % N ∧ k = P.getD q 0)) := by
  have hp := pair_of hN h hq h1
  have a1 := okP_at h q hq
  have m1 := mod1 hN.1 a1
  have hs := second_of hN a1
  rw [hit_iff hN a1] at h1
  have g1 : hitB N (P.getD q 0) (P.getD q 0) = true := (hit_iff hN a1).2 (.inl rfl)
  have g2 : hitB N ((P.getD q 0 + 1) % N) (P.getD q 0) = true := (hit_iff hN a1).2 (.inr rfl)
  have p1 := pair_of hN h hq g1
  have p2 := pair_of hN h hq g2
  have e1 : partM N P (P.getD q 0) = (P.getD q 0 + 1) % N := by rw [partM, p1, atM_nat P q hq, if_pos rfl, hs]
  have e2 : partM N P ((P.getD q 0 + 1) % N) = P.getD q 0 := by rw [partM, p2, atM_nat P q hq, if_neg (by omega)]
  rcases h1 with rfl | rfl
  · exact ⟨_, e1, p2, e2, .inl ⟨rfl, rfl⟩⟩
  · exact ⟨_, e2, p1, e1, .inr ⟨rfl, rfl⟩⟩
/-- How far a half is from the first one. -/
theorem half_dist (hN : 4 ≤ N ∧ N ≤ 16) {a : Int} (ha : 0 ≤ a ∧ a < N) : distM N 0 a a = 0 ∧ distM N 0 a ((a + 1) % N) = 1 := by
  have m := mod1 hN.1 ha
  refine ⟨?_, ?_⟩
  · rw [dist_of ⟨hN.1, hN.2, by omega, ha.1, ha.2, ha.1, ha.2⟩, sg0]; simp
  · have hb := mod_bd (a + 1) N (by omega)
    rw [dist_of ⟨hN.1, hN.2, by omega, ha.1, ha.2, hb.1, hb.2⟩, sg0]
    rcases mod_near N ((a + 1) % N - a) (by omega) (by omega) with e | e | e <;> omega

/-- How many halves of each pair are ahead of a node. -/
def halvesL (N : Int) (P : List Int) (i : Int) : List Int := P.map fun f => (if f < i then 1 else 0) + (if (f + 1) % N < i then 1 else 0)
theorem halves_len (N : Int) (P : List Int) (i : Int) : (halvesL N P i).length = P.length := by simp [halvesL]
theorem halves_zero (hN : 4 ≤ N) (h : okP N P) : halvesL N P 0 = List.replicate P.length 0 := by
  unfold halvesL
  apply List.ext_getElem
  · simp
  · intro j h1 h2
    have hj : j < P.length := by simpa using h1
    have a := h.1 P[j] (List.getElem_mem _)
    have b := mod_bd (P[j] + 1) N (by omega)
    simp only [List.getElem_map, List.getElem_replicate]
    rw [if_neg (by omega), if_neg (by omega)]; rfl
theorem halves_at (N : Int) (P : List Int) (i : Int) (j : Nat) (hj : j < P.length) : (halvesL N P i).getD j 0 = (if P.getD j 0 < i then 1 else 0) + (if (P.getD j 0 + 1) % N < i then 1 else 0) := by
  rw [getD_at _ j (by rw [halves_len]; exact hj), getD_at P j hj]; simp [halvesL]
theorem halves_all (hN : 4 ≤ N) (h : okP N P) (j : Nat) (hj : j < P.length) : (halvesL N P N).getD j 0 = 2 := by
  have a := okP_at h j hj
  have b := mod_bd (P.getD j 0 + 1) N (by omega)
  rw [halves_at N P N j hj, if_pos a.2, if_pos b.2]; rfl
theorem halves_bd (N : Int) (P : List Int) (i : Int) (j : Nat) (hj : j < P.length) : 0 ≤ (halvesL N P i).getD j 0 ∧ (halvesL N P i).getD j 0 ≤ 2 := by
  rw [halves_at N P i j hj]; constructor <;> split <;> split <;> omega
theorem halves_none (hN : 4 ≤ N ∧ N ≤ 16) (h : okP N P) {i : Int} (h0 : ∀ j, j < P.length → hitB N i (P.getD j 0) = false) : halvesL N P (i + 1) = halvesL N P i := by
  apply List.ext_getElem
  · simp [halvesL]
  · intro j h1 h2
    have hj : j < P.length := by simpa [halvesL] using h1
    have a := okP_at h j hj
    have k := h0 j hj
    have k' : ¬ (i = P.getD j 0 ∨ i = (P.getD j 0 + 1) % N) := fun q => by rw [(hit_iff hN a).2 q] at k; cases k
    rw [getD_at P j hj] at k'
    simp only [halvesL, List.getElem_map]
    have c1 : (P[j] < i + 1) ↔ (P[j] < i) := by omega
    have c2 : ((P[j] + 1) % N < i + 1) ↔ ((P[j] + 1) % N < i) := by omega
    simp only [c1, c2]
theorem halves_hit (hN : 4 ≤ N ∧ N ≤ 16) (h : okP N P) {i : Int} {q : Nat} (hq : q < P.length) (h1 : hitB N i (P.getD q 0) = true) : (halvesL N P i).set q ((halvesL N P i).getD q 0 + 1) = halvesL N P (i + 1) := by
  apply List.ext_getElem
  · simp [halvesL]
  · intro j g1 g2
    have hj : j < P.length := by simpa [halvesL] using g2
    have a := okP_at h j hj
    have m := mod1 hN.1 a
    rw [List.getElem_set]
    split
    · rename_i e
      subst e
      rw [halves_at N P i q hq]
      rw [hit_iff hN a] at h1
      simp only [halvesL, List.getElem_map]
      rw [← getD_at P q hj]
      rcases h1 with e | e
      · rw [if_neg (by omega), if_pos (show P.getD q 0 < i + 1 by omega)]
        have c : ((P.getD q 0 + 1) % N < i + 1) ↔ ((P.getD q 0 + 1) % N < i) := by omega
        simp only [c]; omega
      · rw [if_neg (show ¬ (P.getD q 0 + 1) % N < i by omega), if_pos (show (P.getD q 0 + 1) % N < i + 1 by omega)]
        have c : (P.getD q 0 < i + 1) ↔ (P.getD q 0 < i) := by omega
        simp only [c]; omega
    · rename_i e
      have k' : ¬ (i = P.getD j 0 ∨ i = (P.getD j 0 + 1) % N) := fun r => e (hit_one hN h hq hj h1 ((hit_iff hN a).2 r))
      rw [getD_at P j hj] at k'
      simp only [halvesL, List.getElem_map]
      have c1 : (P[j] < i + 1) ↔ (P[j] < i) := by omega
      have c2 : ((P[j] + 1) % N < i + 1) ↔ ((P[j] + 1) % N < i) := by omega
      simp only [c1, c2]
end
/-- A pair's next slot is one of the next round's. -/
theorem next_some {S : List Int} {n p : Nat} (hS : okS n S) (hp : p < n) {a : Int} (ha : 0 ≤ a) (ha' : a ≤ 1099511627776) :
    ∃ j : Nat, j < S.length ∧ nextM S a p = a + j ∧ ownM S (a + j) = p := by
  have hm := hS.2 p hp
  obtain ⟨i, hi, he⟩ := List.getElem_of_mem hm
  have hl : 0 < S.length := by omega
  have hb := mod_bd ((i : Int) - a) (S.length : Int) (by omega)
  have hex : ∃ j : Nat, j < S.length ∧ ownM S (a + j) = p := by
    refine ⟨(((i : Int) - a) % (S.length : Int)).toNat, by omega, ?_⟩
    rw [ownM, Int.toNat_of_nonneg hb.1, Int.add_emod_emod, show a + ((i : Int) - a) = i by omega, Int.emod_eq_of_lt (by omega) (by omega), Int.toNat_natCast, getD_at S i hi, he]
  cases hf : (List.range S.length).find? (fun (j : Nat) => decide (ownM S (a + j) = p)) with
  | none =>
    obtain ⟨j, hj, e⟩ := hex
    rw [List.find?_range_eq_none] at hf
    have := hf j hj
    simp [e] at this
  | some j =>
    have h2 := List.find?_some hf
    rw [List.find?_range_eq_some] at hf
    refine ⟨j, by simpa using hf.2.1, ?_, by simpa using h2⟩
    have hf' : (List.range S.length).find? (fun (j : Nat) => decide (ownM S (a + j) = p)) = some j := by rw [List.find?_range_eq_some]; exact hf
    rw [nextM, if_neg (by omega), hf']
theorem own_at {S : List Int} (h : 0 < S.length) (s : Int) : atM S (s % (S.length : Int)) = ownM S s := by
  have hb := mod_bd s (S.length : Int) (by omega)
  rw [atM, if_pos hb, ownM]
/-- A number cut to its lower 40 bits. -/
theorem and40 (s : Int) : 0 ≤ bits .and .i64 s 1099511627775 ∧ bits .and .i64 s 1099511627775 ≤ 1099511627775 := by
  have e : (BitVec.ofInt 64 1099511627775).toNat = 1099511627775 := by decide
  have hle : (BitVec.ofInt 64 s &&& BitVec.ofInt 64 1099511627775).toNat ≤ 1099511627775 := by
    rw [BitVec.toNat_and, e]; exact Nat.and_le_right
  have hb : bits .and .i64 s 1099511627775 = IntKind.i64.wrap ((BitVec.ofInt 64 s &&& BitVec.ofInt 64 1099511627775).toNat : Int) := rfl
  rw [hb, IntKind.wrap_i64]
  omega
end Go.Proofs.YtbfgdphfeifglaaDoor

