/-
  Plain facts on the sum of package sums, as a register of 32 bits that is shifted and reduced: it is linear, its step can be undone, and an error within 32 neighbouring bits is never lost. No program, no condition but those that are named.
-/
import Derived.Test.YtpjcbfapkjipjaaMem
namespace Go.Proofs.Ytpjcbfapkjipjaa.Crc

/-- The divisor, but for its greatest power. -/
def P : BitVec 32 := 0x04c11db7
/-- One shift of the register. -/
def Z (r : BitVec 32) : BitVec 32 := if r.msb then (r <<< 1) ^^^ P else r <<< 1
def top (b : Bool) : BitVec 32 := if b then 0x80000000 else 0
/-- One bit more. -/
def step (r : BitVec 32) (b : Bool) : BitVec 32 := Z (r ^^^ top b)
def feed (r : BitVec 32) (bs : List Bool) : BitVec 32 := bs.foldl step r
def ones : BitVec 32 := 0xffffffff
/-- The sum of bits. -/
def crc (bs : List Bool) : BitVec 32 := feed ones bs ^^^ ones

theorem Z_zero : Z 0 = 0 := by decide
theorem top_xor (a b : Bool) : top (a != b) = top a ^^^ top b := by cases a <;> cases b <;> decide
theorem Z_xor (a b : BitVec 32) : Z (a ^^^ b) = Z a ^^^ Z b := by
  unfold Z
  rw [BitVec.msb_xor, BitVec.shiftLeft_xor_distrib]
  cases ha : a.msb <;> cases hb : b.msb
  · simp
  · simp [BitVec.xor_assoc]
  · simp only [Bool.true_bne, Bool.not_false, if_true, Bool.false_eq_true, if_false]
    rw [BitVec.xor_assoc, BitVec.xor_assoc, BitVec.xor_comm (b <<< 1) P]
  · simp only [bne_self_eq_false, Bool.false_eq_true, if_false, if_true]
    rw [BitVec.xor_assoc, ← BitVec.xor_assoc P, BitVec.xor_comm P, BitVec.xor_assoc (b <<< 1), BitVec.xor_self, BitVec.xor_zero]
theorem step_xor (a b : BitVec 32) (x y : Bool) : step (a ^^^ b) (x != y) = step a x ^^^ step b y := by
  unfold step
  rw [top_xor, ← Z_xor]
  congr 1
  rw [BitVec.xor_assoc, BitVec.xor_assoc, ← BitVec.xor_assoc b, BitVec.xor_comm b (top x), BitVec.xor_assoc]
theorem feed_xor : ∀ (xs ys : List Bool) (a b : BitVec 32), xs.length = ys.length → feed (a ^^^ b) (List.zipWith (· != ·) xs ys) = feed a xs ^^^ feed b ys := by
  intro xs
  induction xs with
  | nil => intro ys a b h; cases ys with
    | nil => rfl
    | cons => simp at h
  | cons x xs ih => intro ys a b h; cases ys with
    | nil => simp at h
    | cons y ys =>
      show feed (step (a ^^^ b) (x != y)) (List.zipWith (· != ·) xs ys) = feed (step a x) xs ^^^ feed (step b y) ys
      rw [step_xor]
      exact ih ys _ _ (by simpa using h)
theorem feed_append (r : BitVec 32) (xs ys : List Bool) : feed r (xs ++ ys) = feed (feed r xs) ys := List.foldl_append
theorem Z_eq_zero (a : BitVec 32) (h : Z a = 0) : a = 0 := by
  unfold Z at h
  by_cases hm : a.msb = true
  · rw [if_pos hm] at h
    have := congrArg (fun v : BitVec 32 => v.getLsbD 0) h
    simp [P] at this
  · rw [if_neg hm] at h
    have hm' : a.getLsbD 31 = false := by rw [BitVec.msb_eq_getLsbD_last] at hm; simpa using hm
    apply BitVec.eq_of_getLsbD_eq
    intro i hi
    rcases Nat.lt_or_ge i 31 with h31 | h31
    · have := congrArg (fun v : BitVec 32 => v.getLsbD (i + 1)) h
      simp only [BitVec.getLsbD_shiftLeft] at this
      rw [show i + 1 - 1 = i by omega] at this
      simpa only [show (decide (i + 1 < 32)) = true from decide_eq_true (by omega), show (decide (i + 1 < 1)) = false from decide_eq_false (by omega), Bool.true_and, Bool.not_false, BitVec.ofNat_eq_ofNat, BitVec.getLsbD_zero] using this
    · obtain rfl : i = 31 := by omega
      simpa using hm'
def Zn : Nat → BitVec 32 → BitVec 32
  | 0, r => r
  | n + 1, r => Zn n (Z r)
theorem Zn_zero (n : Nat) : Zn n 0 = 0 := by
  induction n with
  | zero => rfl
  | succ n ih => show Zn n (Z 0) = 0; rw [Z_zero, ih]
theorem Zn_xor (n : Nat) : ∀ a b, Zn n (a ^^^ b) = Zn n a ^^^ Zn n b := by
  induction n with
  | zero => intro a b; rfl
  | succ n ih => intro a b; show Zn n (Z (a ^^^ b)) = _; rw [Z_xor, ih]; rfl
theorem Zn_eq_zero (n : Nat) : ∀ a, Zn n a = 0 → a = 0 := by
  induction n with
  | zero => intro a h; exact h
  | succ n ih => intro a h; exact Z_eq_zero a (ih _ h)
theorem feed_false (n : Nat) : ∀ r, feed r (List.replicate n false) = Zn n r := by
  induction n with
  | zero => intro r; rfl
  | succ n ih =>
    intro r
    show feed (step r false) (List.replicate n false) = Zn n (Z r)
    rw [ih]
    simp [step, top]
/-- The bits of a list, as many as 32, at the register's upper end. -/
def left : List Bool → BitVec 32
  | [] => 0
  | b :: bs => top b ^^^ (left bs >>> 1)
theorem left_low : ∀ (bs : List Bool) (i : Nat), i + bs.length < 32 → (left bs).getLsbD i = false := by
  intro bs
  induction bs with
  | nil => intro i _; simp [left]
  | cons b bs ih =>
    intro i hi
    have hi' : i + 1 + bs.length < 32 := by simp at hi; omega
    rw [left, BitVec.getLsbD_xor, BitVec.getLsbD_ushiftRight, Nat.add_comm 1 i, ih (i + 1) hi']
    have : (top b).getLsbD i = false := by
      cases b
      · simp [top]
      · have h31 : i < 31 := by simp at hi; omega
        simp only [top, if_true]
        show (0x80000000 : BitVec 32).getLsbD i = false
        have : ∀ k : Fin 31, (0x80000000 : BitVec 32).getLsbD k.val = false := by decide
        exact this ⟨i, h31⟩
    rw [this]
    rfl
theorem Z_half (d : BitVec 32) (h : d.getLsbD 0 = false) : Z (d >>> 1) = d := by
  have hm : (d >>> 1).msb = false := by
    rw [BitVec.msb_eq_getLsbD_last, BitVec.getLsbD_ushiftRight]
    simp
  unfold Z
  rw [hm]
  simp only [Bool.false_eq_true, if_false]
  apply BitVec.eq_of_getLsbD_eq
  intro i hi
  rw [BitVec.getLsbD_shiftLeft]
  rcases Nat.eq_zero_or_pos i with h0 | h0
  · subst h0
    rw [h]
    rfl
  · rw [BitVec.getLsbD_ushiftRight, show 1 + (i - 1) = i by omega, decide_eq_true hi, decide_eq_false (by omega)]
    rfl
theorem feed_left : ∀ (bs : List Bool) (r : BitVec 32), bs.length ≤ 32 → feed r bs = Zn bs.length (r ^^^ left bs) := by
  intro bs
  induction bs with
  | nil => intro r _; show r = r ^^^ left []; simp [left]
  | cons b bs ih =>
    intro r hl
    have hl' : bs.length ≤ 31 := by simp at hl; omega
    show feed (step r b) bs = Zn bs.length (Z (r ^^^ left (b :: bs)))
    rw [ih _ (by omega)]
    congr 1
    rw [left, ← BitVec.xor_assoc, Z_xor, Z_half _ (left_low bs 0 (by omega))]
    rfl
theorem left_top : ∀ (bs : List Bool), bs.length ≤ 32 → left bs = 0 → ∀ b ∈ bs, b = false := by
  intro bs
  induction bs with
  | nil => intro _ _ b hb; cases hb
  | cons b bs ih =>
    intro hl h c hc
    have hl' : bs.length ≤ 31 := by simp at hl; omega
    have hb : b = false := by
      have := congrArg (fun v : BitVec 32 => v.getLsbD 31) h
      rw [left] at this
      simp only [BitVec.getLsbD_xor, BitVec.getLsbD_ushiftRight] at this
      cases b
      · rfl
      · simp [top] at this
    subst hb
    have h0 : left bs >>> 1 = 0 := by rw [left] at h; simpa [top] using h
    have h1 : left bs = 0 := by rw [← Z_half _ (left_low bs 0 (by omega)), h0, Z_zero]
    rcases List.mem_cons.1 hc with e | e
    · exact e
    · exact ih (by omega) h1 c e
/-- An error within 32 neighbouring bits is never lost. -/
theorem burst (p q : Nat) (d : List Bool) (hd : d.length ≤ 32) (h : ∃ b ∈ d, b = true) : feed 0 (List.replicate p false ++ d ++ List.replicate q false) ≠ 0 := by
  intro e
  rw [feed_append, feed_append, feed_false q, feed_false p, Zn_zero] at e
  have h1 := Zn_eq_zero _ _ e
  rw [feed_left d 0 hd] at h1
  have h2 := Zn_eq_zero _ _ h1
  have h2' : left d = 0 := by simpa using h2
  obtain ⟨b, hb, ht⟩ := h
  rw [left_top d hd h2' b hb] at ht
  cases ht
/-- The 32 bits of a number, the greatest first. -/
def bits32 (v : BitVec 32) : List Bool := (List.range 32).map fun i => v.getLsbD (31 - i)
theorem bits32_length (v : BitVec 32) : (bits32 v).length = 32 := by simp [bits32]
theorem left_get : ∀ (bs : List Bool) (i : Nat), bs.length ≤ 32 → i < 32 → (left bs).getLsbD i = bs.getD (31 - i) false := by
  intro bs
  induction bs with
  | nil => intro i _ _; simp [left]
  | cons b bs ih =>
    intro i hl hi
    have hl' : bs.length ≤ 31 := by simp at hl; omega
    rw [left, BitVec.getLsbD_xor, BitVec.getLsbD_ushiftRight]
    rcases Nat.lt_or_ge i 31 with h | h
    · rw [ih (1 + i) (by omega) (by omega), show 31 - i = (31 - (1 + i)) + 1 by omega, List.getD_cons_succ]
      have : (top b).getLsbD i = false := by
        cases b
        · simp [top]
        · have : ∀ k : Fin 31, (0x80000000 : BitVec 32).getLsbD k.val = false := by decide
          exact this ⟨i, h⟩
      rw [this, Bool.false_xor]
    · obtain rfl : i = 31 := by omega
      have : (left bs).getLsbD (1 + 31) = false := BitVec.getLsbD_of_ge _ _ (by omega)
      rw [this]
      cases b <;> simp [top]
theorem left_bits32 (v : BitVec 32) : left (bits32 v) = v := by
  apply BitVec.eq_of_getLsbD_eq
  intro i hi
  rw [left_get _ _ (by rw [bits32_length]; exact Nat.le_refl _) hi, bits32]
  simp [List.getD, show 31 - i < 32 by omega, show 31 - (31 - i) = i by omega]
/-- The register is at nought behind its own 32 bits. -/
theorem feed_bits32 (r v : BitVec 32) : feed r (bits32 v) = Zn 32 (r ^^^ v) := by
  rw [feed_left _ _ (by rw [bits32_length]; exact Nat.le_refl _), bits32_length, left_bits32]
theorem check_iff (r v : BitVec 32) : feed r (bits32 v) = 0 ↔ r = v := by
  rw [feed_bits32]
  constructor
  · intro h
    exact BitVec.xor_eq_zero_iff.1 (Zn_eq_zero _ _ h)
  · intro h
    rw [h, BitVec.xor_self]
    exact Zn_zero 32
end Go.Proofs.Ytpjcbfapkjipjaa.Crc
