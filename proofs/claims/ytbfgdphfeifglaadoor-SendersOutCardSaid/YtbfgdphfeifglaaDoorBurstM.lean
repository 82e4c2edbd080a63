/-
  Plain facts on bytes with bits turned: within 32 neighbouring ones, whichever, they are no summed bytes any more. No program; the conditions are named.
-/
import Derived.Test.YtbfgdphfeifglaaDoorSumPart
namespace Go.Proofs.YtbfgdphfeifglaaDoor
open Go.RowKit Crc

/-- One bit of bytes turned. -/
def turnB (l : List Int) (p : Nat) : List Int := l.set (p / 8) (xorI (l.getD (p / 8) 0) ((128 / 2 ^ (p % 8) : Nat) : Int))
/-- The first i of 32 bits, from the place F on, turned where v has a one. -/
def turnN (l : List Int) (F : Nat) (v : Int) : Nat → List Int
  | 0 => l
  | i + 1 => if v.toNat.testBit (31 - i) then turnB (turnN l F v i) (F + i) else turnN l F v i

theorem turnB_length (l : List Int) (p : Nat) : (turnB l p).length = l.length := by simp [turnB]
theorem turnN_length (l : List Int) (F : Nat) (v : Int) (k : Nat) : (turnN l F v k).length = l.length := by
  induction k with
  | zero => rfl
  | succ k ih => rw [turnN]; split
                 · rw [turnB_length, ih]
                 · exact ih
theorem turnN_bd (l : List Int) (F : Nat) (v : Int) (h : ∀ x ∈ l, 0 ≤ x ∧ x ≤ 255) (k : Nat) : ∀ x ∈ turnN l F v k, 0 ≤ x ∧ x ≤ 255 := by
  induction k with
  | zero => exact h
  | succ k ih =>
    rw [turnN]
    split
    · intro x hx
      unfold turnB at hx
      rcases List.mem_or_eq_of_mem_set hx with h1 | h1
      · exact ih x h1
      · rw [h1]
        obtain ⟨z, hz⟩ : ∃ z, z = 128 / 2 ^ ((F + k) % 8) := ⟨_, rfl⟩
        have h128 : z ≤ 128 := by rw [hz]; exact Nat.div_le_self _ _
        rw [← hz]
        by_cases hl : (F + k) / 8 < (turnN l F v k).length
        · have h2 := ih _ (show (turnN l F v k).getD ((F + k) / 8) 0 ∈ turnN l F v k by rw [getD_at _ _ hl]; exact List.getElem_mem _)
          exact xorI_bd _ _ h2.1 h2.2 (by omega) (by omega)
        · have h3 : (turnN l F v k).getD ((F + k) / 8) 0 = 0 := by simp [List.getD, List.getElem?_eq_none (Nat.le_of_not_lt hl)]
          rw [h3]
          exact xorI_bd _ _ (by omega) (by omega) (by omega) (by omega)
    · exact ih
theorem xor128 (q : Int) (M : Nat) (h0 : 0 ≤ q) (h1 : q ≤ 255) : bits .xor .u8 q (128 / 2 ^ M) = xorI q ((128 / 2 ^ M : Nat) : Int) := by
  have e : ((128 : Int) / 2 ^ M) = ((128 / 2 ^ M : Nat) : Int) := by simp
  have h2 : 128 / 2 ^ M ≤ 128 := Nat.div_le_self _ _
  obtain ⟨z, hz⟩ : ∃ z, z = 128 / 2 ^ M := ⟨_, rfl⟩
  rw [e, ← hz]
  rw [← hz] at h2
  exact u8_xor q (z : Int) h0 (by omega) (by omega) (by omega)
theorem bit32 (v : Int) (t : Nat) (h0 : 0 ≤ v) (h1 : v < 4294967296) : (bits .and .u32 (v / 2 ^ t) 1 == 1) = v.toNat.testBit t := by
  obtain ⟨V, rfl⟩ := Int.eq_ofNat_of_zero_le h0
  have hle : V / 2 ^ t ≤ V := Nat.div_le_self _ _
  have e : ((V : Int) / 2 ^ t) = ((V / 2 ^ t : Nat) : Int) := by simp
  rw [e, show (1 : Int) = ((1 : Nat) : Int) from rfl, u32_and_nat _ _ (by omega) (by decide), Nat.and_one_is_mod, Int.toNat_natCast, Nat.testBit_eq_decide_div_mod_eq]
  rcases Nat.mod_two_eq_zero_or_one (V / 2 ^ t) with h | h <;> rw [h] <;> decide

theorem bits8_at (x : Int) (j : Nat) (h : j < 8) : (bits8 x).getD j false = x.toNat.testBit (7 - j) := by
  simp [bits8, List.getD, h]
theorem bitsL_at : ∀ (l : List Int) (j : Nat), j < 8 * l.length → (bitsL l).getD j false = (l.getD (j / 8) 0).toNat.testBit (7 - j % 8) := by
  intro l
  induction l with
  | nil => intro j h; simp at h
  | cons x l ih =>
    intro j h
    have e : bitsL (x :: l) = bits8 x ++ bitsL l := rfl
    rw [e, List.getD]
    rcases Nat.lt_or_ge j 8 with h8 | h8
    · rw [List.getElem?_append_left (by rw [bits8_length]; exact h8), ← List.getD, bits8_at x j h8, show j / 8 = 0 by omega, show j % 8 = j by omega]
      rfl
    · rw [List.getElem?_append_right (by rw [bits8_length]; exact h8), bits8_length, ← List.getD, ih (j - 8) (by simp at h; omega), show j / 8 = (j - 8) / 8 + 1 by omega, show (j - 8) % 8 = j % 8 by omega]
      rfl
theorem pow128 (r : Nat) (h : r < 8) : 128 / 2 ^ r = 2 ^ (7 - r) := by
  have : ∀ r : Fin 8, 128 / 2 ^ r.val = 2 ^ (7 - r.val) := by decide
  exact this ⟨r, h⟩
theorem turnB_bits (l : List Int) (p j : Nat) (hp : p < 8 * l.length) (hj : j < 8 * l.length) : (bitsL (turnB l p)).getD j false = ((bitsL l).getD j false ^^ decide (p = j)) := by
  rw [bitsL_at _ _ (by rw [turnB_length]; exact hj), bitsL_at _ _ hj]
  by_cases e : p / 8 = j / 8
  · have h1 : (turnB l p).getD (j / 8) 0 = xorI (l.getD (p / 8) 0) ((128 / 2 ^ (p % 8) : Nat) : Int) := by
      rw [turnB, ← e]
      simp [List.getD, show p / 8 < l.length by omega]
    rw [h1, xorI, Int.toNat_natCast, Int.toNat_natCast, Nat.testBit_xor, pow128 _ (by omega), Nat.testBit_two_pow, e]
    congr 1
    rw [decide_eq_decide]
    omega
  · have h1 : (turnB l p).getD (j / 8) 0 = l.getD (j / 8) 0 := by
      rw [turnB]
      simp [List.getD, List.getElem?_set_ne e]
    rw [h1, decide_eq_false (by intro h; rw [h] at e; exact e rfl), Bool.xor_false]
theorem turnN_bits (l : List Int) (F : Nat) (v : Int) (hF : F + 31 < 8 * l.length) (i : Nat) (hi : i ≤ 32) (j : Nat) (hj : j < 8 * l.length) :
    (bitsL (turnN l F v i)).getD j false = ((bitsL l).getD j false ^^ (decide (F ≤ j ∧ j < F + i) && v.toNat.testBit (31 - (j - F)))) := by
  induction i with
  | zero => rw [decide_eq_false (by omega), Bool.false_and, Bool.xor_false]; rfl
  | succ i ih =>
    have h := ih (by omega)
    rw [turnN]
    by_cases e : F + i = j
    · have h0 : decide (F ≤ j ∧ j < F + i) = false := decide_eq_false (by omega)
      rw [h0, Bool.false_and, Bool.xor_false] at h
      rw [decide_eq_true (show F ≤ j ∧ j < F + (i + 1) by omega), Bool.true_and, show 31 - (j - F) = 31 - i by omega]
      split
      · rename_i ht
        rw [turnB_bits _ _ _ (by rw [turnN_length]; omega) (by rw [turnN_length]; exact hj), h, decide_eq_true e, ht]
      · rename_i ht
        have ht' : v.toNat.testBit (31 - i) = false := by simpa using ht
        rw [h, ht', Bool.xor_false]
    · have h1 : decide (F ≤ j ∧ j < F + (i + 1)) = decide (F ≤ j ∧ j < F + i) := by rw [decide_eq_decide]; omega
      rw [h1, ← h]
      split
      · rw [turnB_bits _ _ _ (by rw [turnN_length]; omega) (by rw [turnN_length]; exact hj), decide_eq_false e, Bool.xor_false]
      · rfl
def errL (N F : Nat) (v : Int) : List Bool := List.replicate F false ++ bits32 (BitVec.ofNat 32 v.toNat) ++ List.replicate (N - F - 32) false
theorem errL_length (N F : Nat) (v : Int) (h : F + 32 ≤ N) : (errL N F v).length = N := by
  simp only [errL, List.length_append, List.length_replicate, bits32_length]
  omega
theorem bits32_at (V : BitVec 32) (j : Nat) (h : j < 32) : (bits32 V).getD j false = V.getLsbD (31 - j) := by
  simp [bits32, List.getD, h]
theorem errL_at (N F : Nat) (v : Int) (j : Nat) (h : F + 32 ≤ N) (hj : j < N) : (errL N F v).getD j false = (decide (F ≤ j ∧ j < F + 32) && v.toNat.testBit (31 - (j - F))) := by
  unfold errL
  rw [List.getD]
  rcases Nat.lt_or_ge j F with h1 | h1
  · rw [List.append_assoc, List.getElem?_append_left (by simpa using h1), decide_eq_false (by omega), Bool.false_and]
    simp [h1]
  · rw [List.append_assoc, List.getElem?_append_right (by simpa using h1), List.length_replicate]
    rcases Nat.lt_or_ge j (F + 32) with h2 | h2
    · rw [List.getElem?_append_left (by rw [bits32_length]; omega), ← List.getD, bits32_at _ _ (by omega), BitVec.getLsbD_ofNat, decide_eq_true (show 31 - (j - F) < 32 by omega), Bool.true_and, decide_eq_true (show F ≤ j ∧ j < F + 32 by omega), Bool.true_and]
    · rw [List.getElem?_append_right (by rw [bits32_length]; omega), bits32_length, decide_eq_false (by omega), Bool.false_and]
      simp [show j - F - 32 < N - F - 32 by omega]
theorem list_getD_ext {xs ys : List Bool} (hl : xs.length = ys.length) (h : ∀ j, j < xs.length → xs.getD j false = ys.getD j false) : xs = ys := by
  apply List.ext_getElem hl
  intro j h1 h2
  have := h j h1
  simpa [List.getD, h1, h2] using this
theorem turnN_zip (l : List Int) (F : Nat) (v : Int) (hF : F + 31 < 8 * l.length) : bitsL (turnN l F v 32) = List.zipWith (· != ·) (bitsL l) (errL (8 * l.length) F v) := by
  have he := errL_length (8 * l.length) F v (by omega)
  apply list_getD_ext
  · rw [bitsL_length, turnN_length, List.length_zipWith, bitsL_length, he]
    omega
  · intro j hj
    rw [bitsL_length, turnN_length] at hj
    rw [turnN_bits l F v hF 32 (by omega) j hj, ← errL_at (8 * l.length) F v j (by omega) hj]
    have h1 : j < (bitsL l).length := by rw [bitsL_length]; exact hj
    have h2 : j < (errL (8 * l.length) F v).length := by rw [he]; exact hj
    rw [List.getD, List.getD, List.getD, List.getElem?_zipWith]
    simp [h1, h2]
theorem bitsL_take (l : List Int) : ∀ n, bitsL (l.take n) = (bitsL l).take (8 * n) := by
  induction l with
  | nil => intro n; simp [bitsL]
  | cons x l ih =>
    intro n
    cases n with
    | zero => simp [bitsL]
    | succ n =>
      show bits8 x ++ bitsL (l.take n) = (bits8 x ++ bitsL l).take (8 * (n + 1))
      rw [ih, show 8 * (n + 1) = (bits8 x).length + 8 * n by rw [bits8_length]; omega, List.take_length_add_append]
theorem bitsL_drop (l : List Int) : ∀ n, bitsL (l.drop n) = (bitsL l).drop (8 * n) := by
  induction l with
  | nil => intro n; simp [bitsL]
  | cons x l ih =>
    intro n
    cases n with
    | zero => simp
    | succ n =>
      show bitsL (l.drop n) = (bits8 x ++ bitsL l).drop (8 * (n + 1))
      rw [ih, show 8 * (n + 1) = (bits8 x).length + 8 * n by rw [bits8_length]; omega, List.drop_length_add_append]
theorem numB_snoc' (l : List Int) (x : Int) : numB (l ++ [x]) = numB l * 256 + x := by simp [numB]
theorem numB_bits (l : List Int) (hb : ∀ x ∈ l, 0 ≤ x ∧ x ≤ 255) : ∀ k, k ≤ l.length → ∀ j, j < 8 * k → (numB (l.take k)).toNat.testBit j = (bitsL (l.take k)).getD (8 * k - 1 - j) false := by
  intro k
  induction k with
  | zero => intro _ j h; omega
  | succ k ih =>
    intro hk j hj
    have hlt : k < l.length := by omega
    have h0 := numB_bd l hb k (by omega)
    have hx := hb (l.getD k 0) (by rw [getD_at l k hlt]; exact List.getElem_mem _)
    rw [bitsL_at _ _ (by rw [List.length_take]; omega), numB_snoc l k hlt]
    have e1 : (numB (l.take k) * 256 + l.getD k 0).toNat = 2 ^ 8 * (numB (l.take k)).toNat + (l.getD k 0).toNat := by omega
    rw [e1, Nat.testBit_two_pow_mul_add _ (by omega)]
    split
    · rename_i h8
      rw [show (8 * (k + 1) - 1 - j) / 8 = k by omega, show 7 - (8 * (k + 1) - 1 - j) % 8 = j by omega]
      congr 2
      simp [List.getD]
    · rename_i h8
      rw [ih (by omega) (j - 8) (by omega), bitsL_at _ _ (by rw [List.length_take]; omega), show (8 * (k + 1) - 1 - j) = 8 * k - 1 - (j - 8) by omega]
      congr 2
      have : (8 * k - 1 - (j - 8)) / 8 < k := by omega
      simp only [List.getD]
      rw [List.getElem?_take_of_lt this, List.getElem?_take_of_lt (by omega)]
theorem num_bits (q : List Int) (hb : ∀ x ∈ q, 0 ≤ x ∧ x ≤ 255) (hl : q.length = 4) : bits32 (BitVec.ofNat 32 (numB q).toNat) = bitsL q := by
  apply list_getD_ext
  · rw [bits32_length, bitsL_length, hl]
  · intro j hj
    rw [bits32_length] at hj
    have h := numB_bits q hb 4 (by omega) (31 - j) (by omega)
    rw [List.take_of_length_le (by omega)] at h
    rw [bits32_at _ _ hj, BitVec.getLsbD_ofNat, decide_eq_true (by omega), Bool.true_and, h]
    congr 1
    omega
theorem numB_lt (q : List Int) (hb : ∀ x ∈ q, 0 ≤ x ∧ x ≤ 255) (hl : q.length = 4) : 0 ≤ numB q ∧ numB q < 4294967296 := by
  have h := numB_bd q hb 4 (by omega)
  rw [List.take_of_length_le (by omega)] at h
  exact ⟨h.1, by have : (256 : Int) ^ 4 = 4294967296 := by decide
                 omega⟩
theorem numB_four (v : Int) : numB (four v) = v := by
  simp [numB, four]
  omega
theorem bits32_inj {a b : BitVec 32} (h : bits32 a = bits32 b) : a = b := by rw [← left_bits32 a, ← left_bits32 b, h]
theorem bits32_left (l : List Bool) (hl : l.length = 32) : bits32 (left l) = l := by
  apply list_getD_ext
  · rw [bits32_length, hl]
  · intro j hj
    rw [bits32_length] at hj
    rw [bits32_at _ _ hj, left_get _ _ (by omega) (by omega), show 31 - (31 - j) = j by omega]
theorem bits32_xor (a b : BitVec 32) : List.zipWith (· != ·) (bits32 a) (bits32 b) = bits32 (a ^^^ b) := by
  apply list_getD_ext
  · rw [List.length_zipWith, bits32_length, bits32_length, bits32_length]
    rfl
  · intro j hj
    rw [List.length_zipWith, bits32_length, bits32_length] at hj
    have hj' : j < 32 := by omega
    have h1 := bits32_at a j hj'
    have h2 := bits32_at b j hj'
    rw [bits32_at _ _ hj', BitVec.getLsbD_xor, ← h1, ← h2, List.getD, List.getD, List.getD, List.getElem?_zipWith, List.getElem?_eq_getElem (by rw [bits32_length]; exact hj'), List.getElem?_eq_getElem (by rw [bits32_length]; exact hj')]
    rfl
theorem four_bits (S : BitVec 32) : bitsL (four (iv S)) = bits32 S := by
  rw [← num_bits _ (four_bd _ (iv_lo S) (iv_hi S)) rfl, numB_four]
  congr 1
  unfold iv
  rw [Int.toNat_natCast]
  simp
theorem put_bits (b : List Int) : bitsL (putL b) = bitsL b ++ bits32 (crc (bitsL b)) := by
  rw [putL, bitsL_append, sumI, four_bits]
theorem check_put (b : List Int) : checkB (putL b) = true := by
  have hl := putL_length b
  rw [checkB, hl, decide_eq_true (by omega), Bool.true_and, show b.length + 4 - 4 = b.length by omega]
  have h1 : (putL b).take b.length = b := by simp [putL]
  have h2 : (putL b).drop b.length = four (sumI b) := by simp [putL]
  rw [h1, h2, numB_four]
  simp
theorem turn_told (b : List Int) (F : Nat) (v : Int) (hb : ∀ x ∈ b, 0 ≤ x ∧ x ≤ 255) (h0 : 0 ≤ v) (h1 : v < 4294967296) (hv : v ≠ 0) (hF : F + 31 < 8 * (b.length + 4)) : checkB (turnN (putL b) F v 32) = false := by
  have hl := putL_length b
  have hl' : (turnN (putL b) F v 32).length = b.length + 4 := by rw [turnN_length, hl]
  rw [checkB, hl', show b.length + 4 - 4 = b.length by omega, decide_eq_true (by omega), Bool.true_and, beq_eq_false_iff_ne]
  intro heq
  have hz := turnN_zip (putL b) F v (by rw [hl]; exact hF)
  have he := errL_length (8 * (putL b).length) F v (by rw [hl]; omega)
  obtain ⟨err, herr⟩ : ∃ err, err = errL (8 * (putL b).length) F v := ⟨_, rfl⟩
  rw [← herr] at hz he
  rw [put_bits] at hz
  have hm : (bitsL b).length = 8 * b.length := bitsL_length b
  have hsplit : err = err.take (8 * b.length) ++ err.drop (8 * b.length) := (List.take_append_drop _ _).symm
  have ht : (err.take (8 * b.length)).length = 8 * b.length := by rw [List.length_take, he, hl]; omega
  have hd : (err.drop (8 * b.length)).length = 32 := by rw [List.length_drop, he, hl]; omega
  rw [hsplit, List.zipWith_append (by rw [hm, ht])] at hz
  have hzl : (List.zipWith (· != ·) (bitsL b) (err.take (8 * b.length))).length = 8 * b.length := by rw [List.length_zipWith, hm, ht]; omega
  have htake : bitsL ((turnN (putL b) F v 32).take b.length) = List.zipWith (· != ·) (bitsL b) (err.take (8 * b.length)) := by
    rw [bitsL_take, hz, List.take_left' hzl]
  have hdrop : bitsL ((turnN (putL b) F v 32).drop b.length) = List.zipWith (· != ·) (bits32 (crc (bitsL b))) (err.drop (8 * b.length)) := by
    rw [bitsL_drop, hz, List.drop_left' hzl]
  have hqb : ∀ x ∈ (turnN (putL b) F v 32).drop b.length, 0 ≤ x ∧ x ≤ 255 := fun x hx => turnN_bd _ F v (putL_bd b hb) 32 x (List.mem_of_mem_drop hx)
  have hql : ((turnN (putL b) F v 32).drop b.length).length = 4 := by rw [List.length_drop, hl']; omega
  have hnb := num_bits _ hqb hql
  have hnl := numB_lt _ hqb hql
  obtain ⟨W, hW⟩ : ∃ W : BitVec 32, W = BitVec.ofNat 32 (numB ((turnN (putL b) F v 32).drop b.length)).toNat := ⟨_, rfl⟩
  have hWi : iv W = numB ((turnN (putL b) F v 32).drop b.length) := by
    rw [hW, iv, BitVec.toNat_ofNat, Nat.mod_eq_of_lt (by omega)]
    omega
  rw [← hW, hdrop] at hnb
  have hE : bits32 (left (err.drop (8 * b.length))) = err.drop (8 * b.length) := bits32_left _ hd
  rw [← hE, bits32_xor] at hnb
  have hWS := bits32_inj hnb
  rw [sumI, htake, ← hWi] at heq
  have hc := iv_inj heq
  rw [hWS, check_err _ _ _ (by rw [hm, ht]), hE, ← hsplit, herr] at hc
  refine burst F (8 * (putL b).length - F - 32) (bits32 (BitVec.ofNat 32 v.toNat)) (by rw [bits32_length]; exact Nat.le_refl _) ?_ hc
  apply Classical.byContradiction
  intro hno
  have hz0 : BitVec.ofNat 32 v.toNat = 0 := by
    rw [← left_bits32 (BitVec.ofNat 32 v.toNat)]
    have : bits32 (BitVec.ofNat 32 v.toNat) = List.replicate 32 false := by
      rw [List.eq_replicate_iff]
      refine ⟨bits32_length _, fun x hx => ?_⟩
      cases x
      · rfl
      · exact absurd ⟨true, hx, rfl⟩ hno
    rw [this]
    decide
  have := congrArg BitVec.toNat hz0
  rw [BitVec.toNat_ofNat, Nat.mod_eq_of_lt (by omega)] at this
  simp at this
  omega
end Go.Proofs.YtbfgdphfeifglaaDoor

