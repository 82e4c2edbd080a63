/-
  What follows of a frame's symbols that were turned: those of bytes with bits turned; so nothing is read, and the tail is told. No program; the conditions are named.
-/
import Derived.Test.YtkjdlcobidglcaaFrM
namespace Go.Proofs.Ytkjdlcobidglcaa
open Go.RowKit Crc

/-- The places from F on at which the first k bits of v are set. -/
def atsL (F : Nat) (v : Int) : Nat → List Int
  | 0 => []
  | k + 1 => if v.toNat.testBit k then atsL F v k ++ [((F + k : Nat) : Int)] else atsL F v k
theorem atsL_length (F : Nat) (v : Int) (k : Nat) : (atsL F v k).length ≤ k := by
  induction k with
  | zero => exact Nat.le_refl _
  | succ k ih =>
    rw [atsL]
    split
    · simp; exact ih
    · omega
theorem atsL_none (F k : Nat) : atsL F 0 k = [] := by
  induction k with
  | zero => rfl
  | succ k ih => rw [atsL, ih]; simp
theorem atsL_some (F : Nat) (v : Int) (i : Nat) (hi : v.toNat.testBit i = true) : ∀ k, i < k → 0 < (atsL F v k).length := by
  intro k
  induction k with
  | zero => intro h; omega
  | succ k ih =>
    intro h
    rw [atsL]
    by_cases e : i = k
    · subst e
      rw [if_pos hi]
      simp
    · have := ih (by omega)
      split
      · simp
      · exact this
theorem bit_of (v : Int) (h0 : 0 ≤ v) (h1 : v < 4294967296) (hv : v ≠ 0) : ∃ i, i < 32 ∧ v.toNat.testBit i = true := by
  obtain ⟨i, hi⟩ := Nat.exists_testBit_of_ne_zero (x := v.toNat) (by omega)
  refine ⟨i, ?_, hi⟩
  rcases Nat.lt_or_ge i 32 with h | h
  · exact h
  · rw [Nat.testBit_lt_two_pow (Nat.lt_of_lt_of_le (show v.toNat < 2 ^ 32 by omega) (Nat.pow_le_pow_right (by decide) h))] at hi
    cases hi
/-- The same bits, the other way round. -/
def revI (v : Int) : Int := (((BitVec.ofNat 32 v.toNat).reverse.toNat : Nat) : Int)
theorem revI_bd (v : Int) : 0 ≤ revI v ∧ revI v < 4294967296 := by
  have := (BitVec.ofNat 32 v.toNat).reverse.isLt
  unfold revI
  omega
theorem revI_bit (v : Int) (i : Nat) (hi : i < 32) : (revI v).toNat.testBit (31 - i) = v.toNat.testBit i := by
  unfold revI
  rw [Int.toNat_natCast, BitVec.testBit_toNat, BitVec.getLsbD_reverse, BitVec.getMsbD_eq_getLsbD]
  simp only [BitVec.getLsbD_ofNat]
  rw [show 32 - 1 - (31 - i) = i by omega]
  simp [hi]
  omega
theorem revI_ne (v : Int) (h0 : 0 ≤ v) (h1 : v < 4294967296) (hv : v ≠ 0) : revI v ≠ 0 := by
  obtain ⟨i, hi, hb⟩ := bit_of v h0 h1 hv
  intro e
  have := revI_bit v i hi
  rw [e, hb] at this
  simp at this
theorem symI_bits (x : Int) (r : Nat) (h : 0 ≤ x) : symI (x / 2 ^ r) = if x.toNat.testBit r then 2 else 1 := by
  rw [Nat.testBit_eq_decide_div_mod_eq]
  obtain ⟨n, rfl⟩ := Int.eq_ofNat_of_zero_le h
  have e : (n : Int) / 2 ^ r = ((n / 2 ^ r : Nat) : Int) := by simp
  unfold symI
  rw [e]
  simp only [Int.toNat_natCast, decide_eq_true_eq]
  by_cases k : n / 2 ^ r % 2 = 1
  · rw [if_pos k, if_pos (by omega)]
  · rw [if_neg k, if_neg (by omega)]
theorem ofL_bits (l : List Int) (hb : ∀ x ∈ l, 0 ≤ x ∧ x ≤ 255) (j : Nat) (hj : j < 8 * l.length) : (ofL l).getD j 0 = if (bitsL l).getD j false then 2 else 1 := by
  rw [ofL_at _ _ hj, ofAt, bitsL_at l j hj]
  have h8 : j / 8 < l.length := by omega
  exact symI_bits _ _ (hb _ (by rw [getD_at l _ h8]; exact List.getElem_mem _)).1
theorem turnB_bd (l : List Int) (p : Nat) (h : ∀ x ∈ l, 0 ≤ x ∧ x ≤ 255) : ∀ x ∈ turnB l p, 0 ≤ x ∧ x ≤ 255 := by
  have := turnN_bd l p 2147483648 h 1
  rw [show turnN l p 2147483648 1 = turnB l p from if_pos (by decide)] at this
  exact this
/-- A symbol turned is a bit turned. -/
theorem turn_sym (l : List Int) (hb : ∀ x ∈ l, 0 ≤ x ∧ x ≤ 255) (p : Nat) (hp : p < 8 * l.length) : turnAt (ofL l) (p : Int) = ofL (turnB l p) := by
  have hl := ofL_length l
  rw [turnAt, if_pos ⟨by omega, by omega⟩, Int.toNat_natCast]
  apply List.ext_getElem
  · rw [List.length_set, ofL_length, ofL_length, turnB_length]
  · intro j h1 h2
    rw [List.length_set, hl] at h1
    have e2 : (ofL (turnB l p))[j] = (ofL (turnB l p)).getD j 0 := (getD_at _ _ h2).symm
    rw [e2, ofL_bits _ (turnB_bd l p hb) j (by rw [turnB_length]; exact h1), turnB_bits l p j hp h1, List.getElem_set]
    have e1 : (ofL l)[j]'(by rw [hl]; exact h1) = (ofL l).getD j 0 := (getD_at _ _ _).symm
    by_cases e : p = j
    · subst e
      rw [if_pos rfl, ofL_bits l hb p hp]
      cases (bitsL l).getD p false <;> simp [turnI]
    · rw [if_neg e, e1, ofL_bits l hb j h1]
      simp [e]
theorem turnAll_more (xs ps : List Int) (p : Int) : turnAll xs (ps ++ [p]) = turnAt (turnAll xs ps) p := by simp [turnAll]
theorem turnAt_head (xs T : List Int) (p : Nat) (hp : p < xs.length) : turnAt (xs ++ T) (p : Int) = turnAt xs (p : Int) ++ T := by
  rw [turnAt, turnAt, if_pos ⟨by omega, by simp; omega⟩, if_pos ⟨by omega, by omega⟩, Int.toNat_natCast, List.set_append_left _ _ hp]
  congr 2
  rw [List.getD, List.getD, List.getElem?_append_left hp]
theorem turn_all (l T : List Int) (hb : ∀ x ∈ l, 0 ≤ x ∧ x ≤ 255) (F : Nat) (v : Int) (hF : F + 31 < 8 * l.length) : ∀ k, k ≤ 32 → turnAll (ofL l ++ T) (atsL F v k) = ofL (turnN l F (revI v) k) ++ T := by
  intro k
  induction k with
  | zero => intro _; rfl
  | succ k ih =>
    intro hk
    have h := ih (by omega)
    rw [atsL, turnN, revI_bit v k (by omega)]
    split
    · have hp : F + k < 8 * (turnN l F (revI v) k).length := by rw [turnN_length]; omega
      rw [turnAll_more, h, turnAt_head _ _ _ (by rw [ofL_length]; exact hp), turn_sym _ (turnN_bd l F _ hb k) _ hp]
    · exact h
/-- What is read of turned symbols. -/
theorem read_turned (f : Fr) (hf : f.Fit) (hm : mayB f.o f.k = true) (F : Nat) (v : Int) (hF : F ≤ 80) (h0 : 0 ≤ v) (h1 : v < 4294967296) (hv : v ≠ 0) :
    readE (turnAll (ofL (putL f.body) ++ tailL true false) (atsL F v 32)) = 5 ∧ readF (turnAll (ofL (putL f.body) ++ tailL true false) (atsL F v 32)) = Fr.zero ∧
      readA (turnAll (ofL (putL f.body) ++ tailL true false) (atsL F v 32)) = true ∧ readB (turnAll (ofL (putL f.body) ++ tailL true false) (atsL F v 32)) = false := by
  have hbd := putL_bd _ (Fr.body_bd hf hm)
  have hl : (putL f.body).length = 14 := by rw [putL_length]; rfl
  rw [turn_all _ _ hbd F v (by omega) 32 (Nat.le_refl _)]
  have hr := revI_bd v
  have hck := turn_told f.body F (revI v) (Fr.body_bd hf hm) hr.1 hr.2 (revI_ne v h0 h1 hv) (by rw [Fr.body_length]; omega)
  have hM := turnN_bd (putL f.body) F (revI v) hbd 32
  have hML : (turnN (putL f.body) F (revI v) 32).length = 14 := by rw [turnN_length, hl]
  obtain ⟨M, hM0⟩ : ∃ M, M = turnN (putL f.body) F (revI v) 32 := ⟨_, rfl⟩
  rw [← hM0] at hck hM hML ⊢
  have hol : (ofL M).length = 112 := by rw [ofL_length, hML]
  have hok : readOk (ofL M ++ tailL true false) = true := by
    rw [readOk, wholeL_append, wholeL_ofL]
    simp [hol, tailL, wholeL, wholeB, tsy]
  obtain ⟨e1, e2, e3, e4⟩ := read_yes hok
  have ht : (ofL M ++ tailL true false).take 112 = ofL M := by rw [List.take_append_of_le_length (by omega), List.take_of_length_le (by omega)]
  rw [ht, bytesL_ofL _ hM] at e1 e2
  obtain ⟨g1, g2⟩ := getE_sum hML hck
  refine ⟨e1.trans g1, e2.trans g2, ?_, ?_⟩
  · rw [e3, List.getD, List.getElem?_append_right (by omega), hol]; rfl
  · rw [e4, List.getD, List.getElem?_append_right (by omega), hol]; rfl
end Go.Proofs.Ytkjdlcobidglcaa
