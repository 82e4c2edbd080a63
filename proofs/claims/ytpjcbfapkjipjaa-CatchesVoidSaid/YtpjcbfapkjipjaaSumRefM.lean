/-
  Plain facts on the reference's division, as lists of bits in memory. No program; the conditions are named.
-/
import Derived.Test.YtpjcbfapkjipjaaBurstM
namespace Go.Proofs.Ytpjcbfapkjipjaa
open Go.RowKit Crc

/-- A row of truths: the first N cells of block g. -/
def RowB (w : World) (t : TypeId) (g N c : Nat) (l : List Bool) : Prop :=
  l.length = N ∧ N ≤ c ∧ ∃ cs : Array Value, Blk w g t cs ∧ cs.size = c ∧ ∀ j, j < N → cs[j]? = some (.bool (l.getD j false))
section
variable {w w' : World} {t : TypeId} {g N c : Nat} {l : List Bool}
theorem RowB.lt (h : RowB w t g N c l) : g < w.heap.size := by obtain ⟨_, _, cs, hB, _⟩ := h; exact hB.lt
theorem RowB.cell (h : RowB w t g N c l) {j : Nat} (hj : j < N) : w.cell? ⟨g, j, none⟩ = some (.bool (l.getD j false)) := by
  obtain ⟨_, _, cs, hB, _, hc⟩ := h
  rw [hB.cell, hc j hj]
theorem RowB.frozen (h : RowB w t g N c l) (j : Nat) : w.frozen? ⟨g, j, none⟩ = false := by
  obtain ⟨_, _, cs, hB, _⟩ := h
  exact hB.frozen j
theorem RowB.set_ (h : RowB w t g N c l) {j : Nat} (hj : j < N) (b : Bool) : RowB (w.setCell ⟨g, j, none⟩ (.bool b)) t g N c (l.set j b) := by
  obtain ⟨h1, h2, cs, hB, h3, h4⟩ := h
  refine ⟨by simp [h1], h2, _, hB.set_ j (.bool b), by simp [h3], fun k hk => ?_⟩
  by_cases e : j = k
  · subst e
    simp [List.getD, show j < cs.size by omega, show j < l.length by omega]
  · rw [Array.getElem?_setIfInBounds_ne e, h4 k hk]
    simp [List.getD, e]
theorem rowB_of_owns {base : Nat} {A : Option Addr} (h : w.ownsRow base t 1 (.slice A N c) N (l.map Value.bool)) (hN : 0 < N) : ∃ g, A = some ⟨g, 0, none⟩ ∧ base ≤ g ∧ RowB w t g N c l := by
  obtain ⟨hl, h2⟩ := h
  have hl' : l.length = N := by simpa using hl
  rcases h2 with ⟨_, h0⟩ | ⟨g, cap, cur, hv, hb, hh, hnc, _, hcs, htk⟩
  · omega
  · injection hv with hA _ hc
    subst hc
    refine ⟨g, hA, hb, hl', hnc, cur, hh, by simpa using hcs, fun j hj => ?_⟩
    have h1 : (cur.toList.take (N * 1))[j]? = cur[j]? := by
      rw [List.getElem?_take_of_lt (by omega)]; simp
    rw [← h1, htk]
    simp [List.getD, show j < l.length by omega]
end

theorem bit8 (x : Int) (r : Nat) (h0 : 0 ≤ x) (h1 : x ≤ 255) : (bits .and .u8 (x / 2 ^ r) 1 == 1) = x.toNat.testBit r := by
  obtain ⟨V, rfl⟩ := Int.eq_ofNat_of_zero_le h0
  have hle : V / 2 ^ r ≤ V := Nat.div_le_self _ _
  have e : ((V : Int) / 2 ^ r) = ((V / 2 ^ r : Nat) : Int) := by simp
  rw [e, show (1 : Int) = ((1 : Nat) : Int) from rfl, u8_and_nat _ _ (by omega) (by decide), Nat.and_one_is_mod, Int.toNat_natCast, Nat.testBit_eq_decide_div_mod_eq]
  rcases Nat.mod_two_eq_zero_or_one (V / 2 ^ r) with h | h <;> rw [h] <;> decide
theorem bits_idx (b : List Int) (i r : Nat) (hi : i < b.length) (hr : r < 8) : (bitsL b).getD (8 * i + (8 - (r + 1))) false = (b.getD i 0).toNat.testBit r := by
  rw [bitsL_at _ _ (by omega), show (8 * i + (8 - (r + 1))) / 8 = i by omega, show 7 - (8 * i + (8 - (r + 1))) % 8 = r by omega]
/-- The bits, and 32 noughts behind. -/
def origL (b : List Int) : List Bool := bitsL b ++ List.replicate 32 false
theorem origL_length (b : List Int) : (origL b).length = 8 * b.length + 32 := by simp [origL, bitsL_length]
theorem origL_low (b : List Int) (j : Nat) (h : j < 8 * b.length) : (origL b).getD j false = (bitsL b).getD j false := by
  rw [origL, List.getD, List.getD, List.getElem?_append_left (by rw [bitsL_length]; exact h)]
theorem origL_high (b : List Int) (j : Nat) (h : 8 * b.length ≤ j) : (origL b).getD j false = false := by
  rw [origL, List.getD, List.getElem?_append_right (by rw [bitsL_length]; exact h), List.getElem?_replicate]
  split <;> rfl
/-- The first i turned. -/
def firstL (l : List Bool) (i : Nat) : List Bool := (List.range l.length).map fun j => l.getD j false ^^ decide (j < i)
theorem firstL_length (l : List Bool) (i : Nat) : (firstL l i).length = l.length := by simp [firstL]
theorem firstL_at (l : List Bool) (i j : Nat) (h : j < l.length) : (firstL l i).getD j false = (l.getD j false ^^ decide (j < i)) := by simp [firstL, h]
theorem firstL_none (l : List Bool) : firstL l 0 = l := by
  apply list_getD_ext (firstL_length l 0)
  intro j hj
  rw [firstL_length] at hj
  rw [firstL_at l 0 j hj]
  simp
theorem firstL_step (l : List Bool) (i : Nat) (h : i < l.length) : (firstL l i).set i (!(firstL l i).getD i false) = firstL l (i + 1) := by
  apply list_getD_ext
  · simp [firstL]
  · intro j hj
    rw [List.length_set, firstL_length] at hj
    rw [firstL_at l (i + 1) j hj]
    by_cases e : i = j
    · subst e
      rw [firstL_at l i i h]
      simp [List.getD, firstL_length, h]
    · have : ((firstL l i).set i (!(firstL l i).getD i false)).getD j false = (firstL l i).getD j false := by simp [List.getD, e]
      rw [this, firstL_at l i j hj]
      congr 1
      rw [decide_eq_decide]
      omega
theorem firstL_div (l : List Bool) : firstL l 32 = divL l ones 0 := by
  apply list_getD_ext
  · rw [firstL_length, divL_length]
  · intro j hj
    rw [firstL_length] at hj
    rw [firstL_at l 32 j hj, divL_at _ _ _ _ hj, divAt, if_neg (by omega), Nat.sub_zero, front]
    congr 1
    by_cases h : j < 32
    · have h32 : ∀ k : Fin 32, ones.getLsbD k.val = true := by decide
      rw [h32 ⟨31 - j, by omega⟩, decide_eq_true h]
      rfl
    · rw [decide_eq_false h, Bool.false_and]
theorem flips_snoc (l : List Bool) (ps : List Nat) (k : Nat) (h : k < ps.length) (i : Nat) : flips l ((ps.take (k + 1)).map fun p => i + 32 - p) = flip (flips l ((ps.take k).map fun p => i + 32 - p)) (i + 32 - ps.getD k 0) := by
  unfold flips
  rw [List.take_succ_eq_append_getElem h, List.map_append, List.foldl_append]
  simp [List.getD, h]
/-- The number of bits, each turned. -/
def notN (l : List Bool) : Nat := l.foldl (fun n b => 2 * n + (if b then 0 else 1)) 0
theorem notN_snoc (l : List Bool) (k : Nat) (h : k < l.length) : notN (l.take (k + 1)) = 2 * notN (l.take k) + (if l.getD k false then 0 else 1) := by
  unfold notN
  rw [List.take_succ_eq_append_getElem h, List.foldl_append]
  simp [List.getD, h]
theorem notN_lt (l : List Bool) : ∀ k, k ≤ l.length → notN (l.take k) < 2 ^ k := by
  intro k
  induction k with
  | zero => intro _; simp [notN]
  | succ k ih =>
    intro h
    have := ih (by omega)
    rw [notN_snoc l k (by omega), Nat.pow_succ]
    split <;> omega
theorem notN_bits (l : List Bool) : ∀ k, k ≤ l.length → ∀ j, j < k → (notN (l.take k)).testBit j = !(l.getD (k - 1 - j) false) := by
  intro k
  induction k with
  | zero => intro _ j h; omega
  | succ k ih =>
    intro hk j hj
    rw [notN_snoc l k (by omega)]
    have e : 2 * notN (l.take k) + (if l.getD k false then 0 else 1) = 2 ^ 1 * notN (l.take k) + (if l.getD k false then 0 else 1) := by simp
    rw [e, Nat.testBit_two_pow_mul_add _ (by split <;> decide)]
    split
    · obtain rfl : j = 0 := by omega
      rw [show k + 1 - 1 - 0 = k by omega]
      cases l.getD k false <;> rfl
    · rw [ih (by omega) (j - 1) (by omega), show k - 1 - (j - 1) = k + 1 - 1 - j by omega]
theorem notN_reg (l : List Bool) (r : BitVec 32) (hl : l.length = 32) (h : ∀ k, k < 32 → l.getD k false = r.getLsbD (31 - k)) : ((notN l : Nat) : Int) = iv (r ^^^ ones) := by
  have hlt := notN_lt l 32 (by omega)
  have hb := notN_bits l 32 (by omega)
  rw [List.take_of_length_le (by omega)] at hlt hb
  have e : r ^^^ ones = BitVec.ofNat 32 (notN l) := by
    apply BitVec.eq_of_getLsbD_eq
    intro i hi
    have h32 : ∀ k : Fin 32, ones.getLsbD k.val = true := by decide
    rw [BitVec.getLsbD_xor, h32 ⟨i, hi⟩, BitVec.getLsbD_ofNat, decide_eq_true hi, Bool.true_and, hb i hi, h _ (by omega), show 31 - (32 - 1 - i) = i by omega]
    simp
  rw [e, iv, BitVec.toNat_ofNat, Nat.mod_eq_of_lt hlt]
/-- The last 32 of the division's list. -/
theorem div_last (b : List Int) (r : BitVec 32) (k : Nat) (hk : k < 32) : (divL (origL b) r (8 * b.length)).getD (8 * b.length + k) false = r.getLsbD (31 - k) := by
  rw [divL_at _ _ _ _ (by rw [origL_length]; omega), divAt, if_neg (by omega), origL_high b _ (by omega), front, show 8 * b.length + k - 8 * b.length = k by omega, decide_eq_true hk, Bool.true_and, Bool.false_xor]
def lastL (l : List Bool) (n : Nat) : List Bool := (List.range 32).map fun k => l.getD (n + k) false
theorem lastL_at (l : List Bool) (n k : Nat) (h : k < 32) : (lastL l n).getD k false = l.getD (n + k) false := by simp [lastL, h]
theorem lastL_length (l : List Bool) (n : Nat) : (lastL l n).length = 32 := by simp [lastL]
theorem div_number (b : List Int) : ((notN (lastL (divL (origL b) (feed ones (bitsL b)) (8 * b.length)) (8 * b.length)) : Nat) : Int) = sumI b := by
  rw [notN_reg _ (feed ones (bitsL b)) (lastL_length _ _) (fun k hk => by rw [lastL_at _ _ _ hk, div_last b _ k hk])]
  rfl
end Go.Proofs.Ytpjcbfapkjipjaa
