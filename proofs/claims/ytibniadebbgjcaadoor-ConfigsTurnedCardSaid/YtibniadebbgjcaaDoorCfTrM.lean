/-
  The mathematics of ConfigsTurned: pairs turned round the ring and put in order again, slots by their new places. No condition; nothing of the program is named here.
-/
import Derived.Test.YtibniadebbgjcaaDoorCfM
namespace Go.Proofs.YtibniadebbgjcaaDoor
open Go.RowKit Rg

/-- The pairs that come round, and those that don't. -/
def lowM (N k : Int) (P : List Int) : List Int := (P.filter fun a => decide (N ≤ a + k)).map fun a => a + k - N
def highM (N k : Int) (P : List Int) : List Int := (P.filter fun a => decide (a + k < N)).map fun a => a + k
/-- Their places, of the first m. -/
def ordA (N k : Int) (P : List Int) (m : Nat) : List Int := ((List.range m).filter fun j => decide (N ≤ P.getD j 0 + k)).map fun (j : Nat) => (j : Int)
def ordB (N k : Int) (P : List Int) (m : Nat) : List Int := ((List.range m).filter fun j => decide (P.getD j 0 + k < N)).map fun (j : Nat) => (j : Int)
def ordM (N k : Int) (P : List Int) : List Int := ordA N k P P.length ++ ordB N k P P.length

section
variable {N k : Int} {P : List Int} {i : Nat}
theorem lowM_yes (hi : i < P.length) (h : N ≤ P.getD i 0 + k) : lowM N k (P.take (i + 1)) = lowM N k (P.take i) ++ [P.getD i 0 + k - N] := by
  rw [take_snoc P i hi, lowM, List.filter_append, List.map_append, List.filter_cons_of_pos (by simpa using h)]; rfl
theorem lowM_no (hi : i < P.length) (h : P.getD i 0 + k < N) : lowM N k (P.take (i + 1)) = lowM N k (P.take i) := by
  rw [take_snoc P i hi, lowM, List.filter_append, List.map_append, List.filter_cons_of_neg (by simpa using h)]; simp [lowM]
theorem highM_yes (hi : i < P.length) (h : P.getD i 0 + k < N) : highM N k (P.take (i + 1)) = highM N k (P.take i) ++ [P.getD i 0 + k] := by
  rw [take_snoc P i hi, highM, List.filter_append, List.map_append, List.filter_cons_of_pos (by simpa using h)]; rfl
theorem highM_no (hi : i < P.length) (h : N ≤ P.getD i 0 + k) : highM N k (P.take (i + 1)) = highM N k (P.take i) := by
  rw [take_snoc P i hi, highM, List.filter_append, List.map_append, List.filter_cons_of_neg (by simpa using h)]; simp [highM]
theorem ordA_yes (h : N ≤ P.getD i 0 + k) : ordA N k P (i + 1) = ordA N k P i ++ [(i : Int)] := by
  rw [ordA, List.range_succ, List.filter_append, List.map_append, List.filter_cons_of_pos (by simpa using h)]; rfl
theorem ordA_no (h : P.getD i 0 + k < N) : ordA N k P (i + 1) = ordA N k P i := by
  rw [ordA, List.range_succ, List.filter_append, List.map_append, List.filter_cons_of_neg (by simpa using h)]; simp [ordA]
theorem ordB_yes (h : P.getD i 0 + k < N) : ordB N k P (i + 1) = ordB N k P i ++ [(i : Int)] := by
  rw [ordB, List.range_succ, List.filter_append, List.map_append, List.filter_cons_of_pos (by simpa using h)]; rfl
theorem ordB_no (h : N ≤ P.getD i 0 + k) : ordB N k P (i + 1) = ordB N k P i := by
  rw [ordB, List.range_succ, List.filter_append, List.map_append, List.filter_cons_of_neg (by simpa using h)]; simp [ordB]
end
theorem filt_len {α : Type} (p q : α → Bool) (h : ∀ a, q a = !p a) : ∀ l : List α, (l.filter p).length + (l.filter q).length = l.length := by
  intro l
  induction l with
  | nil => rfl
  | cons a l ih =>
    rw [List.filter_cons, List.filter_cons, h a]
    cases p a <;> simp <;> omega
theorem turn_not (N x : Int) : decide (x < N) = !decide (N ≤ x) := by
  by_cases h : N ≤ x
  · simp [h]
  · simp [h]; omega
theorem turned_len (N k : Int) (P : List Int) : (lowM N k P).length + (highM N k P).length = P.length := by
  rw [lowM, highM, List.length_map, List.length_map]
  exact filt_len _ _ (fun a => turn_not N (a + k)) P
theorem ordM_len (N k : Int) (P : List Int) : (ordM N k P).length = P.length := by
  rw [ordM, List.length_append, ordA, ordB, List.length_map, List.length_map, filt_len _ _ (fun j => turn_not N (P.getD j 0 + k)), List.length_range]
theorem ordM_mem (N k : Int) (P : List Int) (s : Int) : s ∈ ordM N k P ↔ 0 ≤ s ∧ s < P.length := by
  simp only [ordM, ordA, ordB, List.mem_append, List.mem_map, List.mem_filter, List.mem_range, decide_eq_true_eq]
  constructor
  · rintro (⟨j, ⟨hj, _⟩, rfl⟩ | ⟨j, ⟨hj, _⟩, rfl⟩) <;> omega
  · intro h
    by_cases e : N ≤ P.getD s.toNat 0 + k
    · exact .inl ⟨s.toNat, ⟨by omega, e⟩, by omega⟩
    · exact .inr ⟨s.toNat, ⟨by omega, by omega⟩, by omega⟩
theorem ordM_nodup (N k : Int) (P : List Int) : (ordM N k P).Nodup := by
  have h1 : ∀ l : List Nat, l.Nodup → (l.map fun (j : Nat) => (j : Int)).Nodup := fun l hl => by
    rw [List.Nodup, List.pairwise_map]
    exact hl.imp fun h e => h (by omega)
  rw [ordM, List.nodup_append]
  refine ⟨h1 _ (List.nodup_range.filter _), h1 _ (List.nodup_range.filter _), ?_⟩
  intro a ha b hb e
  simp only [ordA, ordB, List.mem_map, List.mem_filter, List.mem_range, decide_eq_true_eq] at ha hb
  obtain ⟨j, ⟨_, h1⟩, rfl⟩ := ha
  obtain ⟨j', ⟨_, h2⟩, rfl⟩ := hb
  obtain rfl : j = j' := by omega
  omega

theorem turn_split (N k : Int) : ∀ P : List Int, P.Pairwise (· < ·) → ∃ Q R, P = Q ++ R ∧ (∀ a ∈ Q, a + k < N) ∧ ∀ a ∈ R, N ≤ a + k := by
  intro P
  induction P with
  | nil => intro _; exact ⟨[], [], rfl, by simp, by simp⟩
  | cons a P ih =>
    intro h
    rw [List.pairwise_cons] at h
    by_cases e : N ≤ a + k
    · refine ⟨[], a :: P, rfl, by simp, fun b hb => ?_⟩
      rcases List.mem_cons.1 hb with rfl | hb
      · exact e
      · have := h.1 b hb; omega
    · obtain ⟨Q, R, rfl, h1, h2⟩ := ih h.2
      refine ⟨a :: Q, R, rfl, fun b hb => ?_, h2⟩
      rcases List.mem_cons.1 hb with rfl | hb
      · omega
      · exact h1 b hb
/-- Turned pairs may be just if they might. -/
theorem turned_ok {N k : Int} {P : List Int} (hk : 0 ≤ k ∧ k < N) (hN : ∀ a ∈ P, 0 ≤ a ∧ a < N) (hs : P.Pairwise (· < ·)) : okP N (lowM N k P ++ highM N k P) ↔ okP N P := by
  obtain ⟨Q, R, rfl, h1, h2⟩ := turn_split N k P hs
  have e1 : lowM N k (Q ++ R) = R.map fun a => a + k - N := by
    rw [lowM, List.filter_append, List.filter_eq_nil_iff.2 (fun a ha => by have := h1 a ha; simp; omega), List.filter_eq_self.2 (fun a ha => by simpa using h2 a ha), List.nil_append]
  have e2 : highM N k (Q ++ R) = Q.map fun a => a + k := by
    rw [highM, List.filter_append, List.filter_eq_self.2 (fun a ha => by simpa using h1 a ha), List.filter_eq_nil_iff.2 (fun a ha => by have := h2 a ha; simp; omega), List.append_nil]
  have hb : ∀ x ∈ (R.map fun a => a + k - N) ++ (Q.map fun a => a + k), 0 ≤ x ∧ x < N := by
    intro x hx
    rcases List.mem_append.1 hx with hx | hx <;> obtain ⟨a, ha, rfl⟩ := List.mem_map.1 hx
    · have := h2 a ha; have := hN a (by simp [ha]); omega
    · have := h1 a ha; have := hN a (by simp [ha]); omega
  rw [e1, e2]
  unfold okP
  rw [List.pairwise_append, List.pairwise_append, List.pairwise_map, List.pairwise_map]
  constructor
  · rintro ⟨-, a, b, d⟩
    refine ⟨hN, b.imp fun h => by omega, a.imp fun h => by omega, fun x hx y hy => ?_⟩
    have := d (y + k - N) (List.mem_map.2 ⟨y, hy, rfl⟩) (x + k) (List.mem_map.2 ⟨x, hx, rfl⟩)
    omega
  · rintro ⟨-, a, b, d⟩
    refine ⟨hb, b.imp fun h => by omega, a.imp fun h => by omega, fun x hx y hy => ?_⟩
    obtain ⟨x', hx', rfl⟩ := List.mem_map.1 hx
    obtain ⟨y', hy', rfl⟩ := List.mem_map.1 hy
    have := d y' hy' x' hx'
    omega

/-- The last place of a number, from place i on; n: where it was found last. -/
def posG (s : Int) : Int → Int → List Int → Int
  | _, n, [] => n
  | i, n, o :: r => posG s (i + 1) (if o = s then i else n) r
def posM (O : List Int) (s : Int) : Int := posG s 0 (-1) O
theorem posG_drop (s i n : Int) (O : List Int) (j : Nat) (h : j < O.length) : posG s i n (O.drop j) = posG s (i + 1) (if O.getD j 0 = s then i else n) (O.drop (j + 1)) := by
  rw [List.drop_eq_getElem_cons h, posG, getD_at O j h]
theorem posG_spec (s : Int) : ∀ (O : List Int) (i n : Int), (s ∈ O → ∃ j, ∃ h : j < O.length, O[j] = s ∧ posG s i n O = i + j) ∧ (s ∉ O → posG s i n O = n) := by
  intro O
  induction O with
  | nil => intro i n; exact ⟨fun h => (by cases h), fun _ => rfl⟩
  | cons o r ih =>
    intro i n
    rw [posG]
    obtain ⟨a, b⟩ := ih (i + 1) (if o = s then i else n)
    by_cases hr : s ∈ r
    · obtain ⟨j, hj, e, hp⟩ := a hr
      exact ⟨fun _ => ⟨j + 1, by simp; omega, by simpa using e, by rw [hp]; omega⟩, fun h => absurd (List.mem_cons_of_mem _ hr) h⟩
    · rw [b hr]
      by_cases ho : o = s
      · exact ⟨fun _ => ⟨0, by simp, by simpa using ho, by rw [if_pos ho]; simp⟩, fun h => absurd (by rw [ho]; simp) h⟩
      · exact ⟨fun h => by
          rcases List.mem_cons.1 h with h | h
          · exact absurd h.symm ho
          · exact absurd h hr, fun _ => by rw [if_neg ho]⟩
theorem posM_in {O : List Int} {s : Int} (h : s ∈ O) : ∃ j, ∃ h : j < O.length, O[j] = s ∧ posM O s = j := by
  obtain ⟨j, hj, e, hp⟩ := (posG_spec s O 0 (-1)).1 h
  exact ⟨j, hj, e, by rw [posM, hp]; omega⟩
theorem posM_out {O : List Int} {s : Int} (h : s ∉ O) : posM O s = -1 := (posG_spec s O 0 (-1)).2 h
/-- Slots by their new places may be just if they might. -/
theorem slots_turned {n : Nat} {O S : List Int} (hl : O.length = n) (hm : ∀ s, s ∈ O ↔ 0 ≤ s ∧ s < n) (hd : O.Nodup) : okS n (S.map (posM O)) ↔ okS n S := by
  constructor
  · rintro ⟨h1, h2⟩
    refine ⟨fun s hs => ?_, fun p hp => ?_⟩
    · by_cases e : s ∈ O
      · exact (hm s).1 e
      · have := h1 _ (List.mem_map.2 ⟨s, hs, rfl⟩)
        rw [posM_out e] at this
        omega
    · obtain ⟨j, hj, e, _⟩ := posM_in ((hm (p : Int)).2 (by omega))
      obtain ⟨s, hs, hq⟩ := List.mem_map.1 (h2 j (by omega))
      by_cases hso : s ∈ O
      · obtain ⟨j', hj', e', hp'⟩ := posM_in hso
        rw [hp'] at hq
        obtain rfl : j' = j := by omega
        rw [← e, e']
        exact hs
      · rw [posM_out hso] at hq
        omega
  · rintro ⟨h1, h2⟩
    refine ⟨fun x hx => ?_, fun p hp => ?_⟩
    · obtain ⟨s, hs, rfl⟩ := List.mem_map.1 hx
      obtain ⟨j, hj, _, e⟩ := posM_in ((hm s).2 (h1 s hs))
      rw [e]
      omega
    · have hpo : p < O.length := by omega
      have hmem := (hm O[p]).1 (List.getElem_mem hpo)
      obtain ⟨j, hj, e, hq⟩ := posM_in (List.getElem_mem hpo)
      have hjp : j = p := (List.getElem_inj hd).1 e
      refine List.mem_map.2 ⟨O[p], ?_, by rw [hq, hjp]⟩
      have := h2 (O[p]).toNat (by omega)
      rwa [show ((O[p]).toNat : Int) = O[p] by omega] at this
end Go.Proofs.YtibniadebbgjcaaDoor
