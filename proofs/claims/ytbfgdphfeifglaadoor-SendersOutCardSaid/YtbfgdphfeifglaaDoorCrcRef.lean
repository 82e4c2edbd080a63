/-
  Plain facts on the reference's division, bit by bit, and the register: what is left of the division is the register; the sum of two lists of one length. No program, no condition but those that are named.
-/
import Derived.Test.YtbfgdphfeifglaaDoorMem
namespace Go.Proofs.YtbfgdphfeifglaaDoor.Crc

/-- The divisor, but for its greatest power. -/
def P : BitVec 32 := 0x04c11db7
/-- One shift of the register. -/
def Z (r : BitVec 32) : BitVec 32 := if r.msb then (r <<< 1) ^^^ P else r <<< 1
def top (b : Bool) : BitVec 32 := if b then 0x80000000 else 0
/-- One bit more. -/
def step (r : BitVec 32) (b : Bool) : BitVec 32 := Z (r ^^^ top b)
def feed (r : BitVec 32) (bs : List Bool) : BitVec 32 := bs.foldl step r
def ones : BitVec 32 := 0xffffffff
/-- The sum of bits. -/
def crc (bs : List Bool) : BitVec 32 := feed ones bs ^^^ ones

theorem Z_zero : Z 0 = 0 := by decide
theorem top_xor (a b : Bool) : top (a != b) = top a ^^^ top b := by cases a <;> cases b <;> decide
theorem Z_xor (a b : BitVec 32) : Z (a ^^^ b) = Z a ^^^ Z b := by
  unfold Z
  rw [BitVec.msb_xor, BitVec.shiftLeft_xor_distrib]
  cases ha : a.msb <;> cases hb : b.msb
  · simp
  · simp [BitVec.xor_assoc]
  · simp only [Bool.true_bne, Bool.not_false, if_true, Bool.false_eq_true, if_false]
    rw [BitVec.xor_assoc, BitVec.xor_assoc, BitVec.xor_comm (b <<< 1) P]
  · simp only [bne_self_eq_false, Bool.false_eq_true, if_false, if_true]
    rw [BitVec.xor_assoc, ← BitVec.xor_assoc P, BitVec.xor_comm P, BitVec.xor_assoc (b <<< 1), BitVec.xor_self, BitVec.xor_zero]
theorem step_xor (a b : BitVec 32) (x y : Bool) : step (a ^^^ b) (x != y) = step a x ^^^ step b y := by
  unfold step
  rw [top_xor, ← Z_xor]
  congr 1
  rw [BitVec.xor_assoc, BitVec.xor_assoc, ← BitVec.xor_assoc b, BitVec.xor_comm b (top x), BitVec.xor_assoc]
theorem feed_xor : ∀ (xs ys : List Bool) (a b : BitVec 32), xs.length = ys.length → feed (a ^^^ b) (List.zipWith (· != ·) xs ys) = feed a xs ^^^ feed b ys := by
  intro xs
  induction xs with
  | nil => intro ys a b h; cases ys with
    | nil => rfl
    | cons => simp at h
  | cons x xs ih => intro ys a b h; cases ys with
    | nil => simp at h
    | cons y ys =>
      show feed (step (a ^^^ b) (x != y)) (List.zipWith (· != ·) xs ys) = feed (step a x) xs ^^^ feed (step b y) ys
      rw [step_xor]
      exact ih ys _ _ (by simpa using h)
theorem feed_append (r : BitVec 32) (xs ys : List Bool) : feed r (xs ++ ys) = feed (feed r xs) ys := List.foldl_append
theorem Z_eq_zero (a : BitVec 32) (h : Z a = 0) : a = 0 := by
  unfold Z at h
  by_cases hm : a.msb = true
  · rw [if_pos hm] at h
    have := congrArg (fun v : BitVec 32 => v.getLsbD 0) h
    simp [P] at this
  · rw [if_neg hm] at h
    have hm' : a.getLsbD 31 = false := by rw [BitVec.msb_eq_getLsbD_last] at hm; simpa using hm
    apply BitVec.eq_of_getLsbD_eq
    intro i hi
    rcases Nat.lt_or_ge i 31 with h31 | h31
    · have := congrArg (fun v : BitVec 32 => v.getLsbD (i + 1)) h
      simp only [BitVec.getLsbD_shiftLeft] at this
      rw [show i + 1 - 1 = i by omega] at this
      simpa only [show (decide (i + 1 < 32)) = true from decide_eq_true (by omega), show (decide (i + 1 < 1)) = false from decide_eq_false (by omega), Bool.true_and, Bool.not_false, BitVec.ofNat_eq_ofNat, BitVec.getLsbD_zero] using this
    · obtain rfl : i = 31 := by omega
      simpa using hm'
def Zn : Nat → BitVec 32 → BitVec 32
  | 0, r => r
  | n + 1, r => Zn n (Z r)
theorem Zn_zero (n : Nat) : Zn n 0 = 0 := by
  induction n with
  | zero => rfl
  | succ n ih => show Zn n (Z 0) = 0; rw [Z_zero, ih]
theorem Zn_xor (n : Nat) : ∀ a b, Zn n (a ^^^ b) = Zn n a ^^^ Zn n b := by
  induction n with
  | zero => intro a b; rfl
  | succ n ih => intro a b; show Zn n (Z (a ^^^ b)) = _; rw [Z_xor, ih]; rfl
theorem Zn_eq_zero (n : Nat) : ∀ a, Zn n a = 0 → a = 0 := by
  induction n with
  | zero => intro a h; exact h
  | succ n ih => intro a h; exact Z_eq_zero a (ih _ h)
theorem feed_false (n : Nat) : ∀ r, feed r (List.replicate n false) = Zn n r := by
  induction n with
  | zero => intro r; rfl
  | succ n ih =>
    intro r
    show feed (step r false) (List.replicate n false) = Zn n (Z r)
    rw [ih]
    simp [step, top]
/-- The bits of a list, as many as 32, at the register's upper end. -/
def left : List Bool → BitVec 32
  | [] => 0
  | b :: bs => top b ^^^ (left bs >>> 1)
theorem left_low : ∀ (bs : List Bool) (i : Nat), i + bs.length < 32 → (left bs).getLsbD i = false := by
  intro bs
  induction bs with
  | nil => intro i _; simp [left]
  | cons b bs ih =>
    intro i hi
    have hi' : i + 1 + bs.length < 32 := by simp at hi; omega
    rw [left, BitVec.getLsbD_xor, BitVec.getLsbD_ushiftRight, Nat.add_comm 1 i, ih (i + 1) hi']
    have : (top b).getLsbD i = false := by
      cases b
      · simp [top]
      · have h31 : i < 31 := by simp at hi; omega
        simp only [top, if_true]
        show (0x80000000 : BitVec 32).getLsbD i = false
        have : ∀ k : Fin 31, (0x80000000 : BitVec 32).getLsbD k.val = false := by decide
        exact this ⟨i, h31⟩
    rw [this]
    rfl
theorem Z_half (d : BitVec 32) (h : d.getLsbD 0 = false) : Z (d >>> 1) = d := by
  have hm : (d >>> 1).msb = false := by
    rw [BitVec.msb_eq_getLsbD_last, BitVec.getLsbD_ushiftRight]
    simp
  unfold Z
  rw [hm]
  simp only [Bool.false_eq_true, if_false]
  apply BitVec.eq_of_getLsbD_eq
  intro i hi
  rw [BitVec.getLsbD_shiftLeft]
  rcases Nat.eq_zero_or_pos i with h0 | h0
  · subst h0
    rw [h]
    rfl
  · rw [BitVec.getLsbD_ushiftRight, show 1 + (i - 1) = i by omega, decide_eq_true hi, decide_eq_false (by omega)]
    rfl
theorem feed_left : ∀ (bs : List Bool) (r : BitVec 32), bs.length ≤ 32 → feed r bs = Zn bs.length (r ^^^ left bs) := by
  intro bs
  induction bs with
  | nil => intro r _; show r = r ^^^ left []; simp [left]
  | cons b bs ih =>
    intro r hl
    have hl' : bs.length ≤ 31 := by simp at hl; omega
    show feed (step r b) bs = Zn bs.length (Z (r ^^^ left (b :: bs)))
    rw [ih _ (by omega)]
    congr 1
    rw [left, ← BitVec.xor_assoc, Z_xor, Z_half _ (left_low bs 0 (by omega))]
    rfl
theorem left_top : ∀ (bs : List Bool), bs.length ≤ 32 → left bs = 0 → ∀ b ∈ bs, b = false := by
  intro bs
  induction bs with
  | nil => intro _ _ b hb; cases hb
  | cons b bs ih =>
    intro hl h c hc
    have hl' : bs.length ≤ 31 := by simp at hl; omega
    have hb : b = false := by
      have := congrArg (fun v : BitVec 32 => v.getLsbD 31) h
      rw [left] at this
      simp only [BitVec.getLsbD_xor, BitVec.getLsbD_ushiftRight] at this
      cases b
      · rfl
      · simp [top] at this
    subst hb
    have h0 : left bs >>> 1 = 0 := by rw [left] at h; simpa [top] using h
    have h1 : left bs = 0 := by rw [← Z_half _ (left_low bs 0 (by omega)), h0, Z_zero]
    rcases List.mem_cons.1 hc with e | e
    · exact e
    · exact ih (by omega) h1 c e
/-- An error within 32 neighbouring bits is never lost. -/
theorem burst (p q : Nat) (d : List Bool) (hd : d.length ≤ 32) (h : ∃ b ∈ d, b = true) : feed 0 (List.replicate p false ++ d ++ List.replicate q false) ≠ 0 := by
  intro e
  rw [feed_append, feed_append, feed_false q, feed_false p, Zn_zero] at e
  have h1 := Zn_eq_zero _ _ e
  rw [feed_left d 0 hd] at h1
  have h2 := Zn_eq_zero _ _ h1
  have h2' : left d = 0 := by simpa using h2
  obtain ⟨b, hb, ht⟩ := h
  rw [left_top d hd h2' b hb] at ht
  cases ht
/-- The 32 bits of a number, the greatest first. -/
def bits32 (v : BitVec 32) : List Bool := (List.range 32).map fun i => v.getLsbD (31 - i)
theorem bits32_length (v : BitVec 32) : (bits32 v).length = 32 := by simp [bits32]
theorem left_get : ∀ (bs : List Bool) (i : Nat), bs.length ≤ 32 → i < 32 → (left bs).getLsbD i = bs.getD (31 - i) false := by
  intro bs
  induction bs with
  | nil => intro i _ _; simp [left]
  | cons b bs ih =>
    intro i hl hi
    have hl' : bs.length ≤ 31 := by simp at hl; omega
    rw [left, BitVec.getLsbD_xor, BitVec.getLsbD_ushiftRight]
    rcases Nat.lt_or_ge i 31 with h | h
    · rw [ih (1 + i) (by omega) (by omega), show 31 - i = (31 - (1 + i)) + 1 by omega, List.getD_cons_succ]
      have : (top b).getLsbD i = false := by
        cases b
        · simp [top]
        · have : ∀ k : Fin 31, (0x80000000 : BitVec 32).getLsbD k.val = false := by decide
          exact this ⟨i, h⟩
      rw [this, Bool.false_xor]
    · obtain rfl : i = 31 := by omega
      have : (left bs).getLsbD (1 + 31) = false := BitVec.getLsbD_of_ge _ _ (by omega)
      rw [this]
      cases b <;> simp [top]
theorem left_bits32 (v : BitVec 32) : left (bits32 v) = v := by
  apply BitVec.eq_of_getLsbD_eq
  intro i hi
  rw [left_get _ _ (by rw [bits32_length]; exact Nat.le_refl _) hi, bits32]
  simp [List.getD, show 31 - i < 32 by omega, show 31 - (31 - i) = i by omega]
/-- The register is at nought behind its own 32 bits. -/
theorem feed_bits32 (r v : BitVec 32) : feed r (bits32 v) = Zn 32 (r ^^^ v) := by
  rw [feed_left _ _ (by rw [bits32_length]; exact Nat.le_refl _), bits32_length, left_bits32]
theorem check_iff (r v : BitVec 32) : feed r (bits32 v) = 0 ↔ r = v := by
  rw [feed_bits32]
  constructor
  · intro h
    exact BitVec.xor_eq_zero_iff.1 (Zn_eq_zero _ _ h)
  · intro h
    rw [h, BitVec.xor_self]
    exact Zn_zero 32
end Go.Proofs.YtbfgdphfeifglaaDoor.Crc

namespace Go.Proofs.YtbfgdphfeifglaaDoor.Crc

/-- The register's bits on a list's front, the greatest first. -/
def front (r : BitVec 32) (k : Nat) : Bool := decide (k < 32) && r.getLsbD (31 - k)
/-- The division's list behind i steps: the register r on the front of what is left. -/
def divAt (orig : List Bool) (r : BitVec 32) (i j : Nat) : Bool := if j < i then false else (orig.getD j false ^^ front r (j - i))
def divL (orig : List Bool) (r : BitVec 32) (i : Nat) : List Bool := (List.range orig.length).map (divAt orig r i)
theorem divL_length (orig : List Bool) (r : BitVec 32) (i : Nat) : (divL orig r i).length = orig.length := by simp [divL]
theorem divL_at (orig : List Bool) (r : BitVec 32) (i j : Nat) (h : j < orig.length) : (divL orig r i).getD j false = divAt orig r i j := by simp [divL, h]

theorem front_msb (r : BitVec 32) : front r 0 = r.msb := by
  rw [BitVec.msb_eq_getLsbD_last]
  simp [front]
theorem top_low (b : Bool) (k : Nat) (h : k < 31) : (top b).getLsbD k = false := by
  cases b
  · simp [top]
  · have : ∀ k : Fin 31, (0x80000000 : BitVec 32).getLsbD k.val = false := by decide
    exact this ⟨k, h⟩
theorem top_msb (b : Bool) : (top b).msb = b := by cases b <;> decide
theorem front_shift (r : BitVec 32) (b : Bool) (k : Nat) : front ((r ^^^ top b) <<< 1) k = front r (k + 1) := by
  unfold front
  rcases Nat.lt_or_ge k 31 with h | h
  · rw [BitVec.getLsbD_shiftLeft, BitVec.getLsbD_xor, show 31 - k - 1 = 30 - k by omega, top_low b (30 - k) (by omega), show 31 - (k + 1) = 30 - k by omega,
      decide_eq_true (show k < 32 by omega), decide_eq_true (show k + 1 < 32 by omega), decide_eq_true (show 31 - k < 32 by omega), decide_eq_false (show ¬ 31 - k < 1 by omega)]
    simp
  · rw [decide_eq_false (show ¬ k + 1 < 32 by omega), Bool.false_and]
    rcases Nat.eq_or_lt_of_le h with e | e
    · subst e; rw [BitVec.getLsbD_shiftLeft]; simp
    · rw [decide_eq_false (by omega), Bool.false_and]
theorem front_xor (a b : BitVec 32) (k : Nat) : front (a ^^^ b) k = (front a k ^^ front b k) := by
  unfold front
  cases decide (k < 32) <;> simp
/-- A step where the next bit of what is left is not set: the list stays. -/
theorem div_keep (orig : List Bool) (r : BitVec 32) (i : Nat) (h : divAt orig r i i = false) : divL orig (step r (orig.getD i false)) (i + 1) = divL orig r i := by
  have h0 : (orig.getD i false ^^ r.msb) = false := by rw [divAt, if_neg (Nat.lt_irrefl i), Nat.sub_self, front_msb] at h; exact h
  have hz : step r (orig.getD i false) = (r ^^^ top (orig.getD i false)) <<< 1 := by
    unfold step Z
    rw [BitVec.msb_xor, top_msb]
    rw [show (r.msb ^^ orig.getD i false) = false by rw [Bool.xor_comm]; exact h0]
    simp
  unfold divL
  apply List.map_congr_left
  intro j _
  unfold divAt
  by_cases h1 : j < i
  · rw [if_pos (by omega), if_pos h1]
  · by_cases h2 : j = i
    · subst h2
      rw [if_pos (by omega), if_neg h1, Nat.sub_self, front_msb]
      exact h0.symm
    · rw [if_neg (by omega), if_neg h1, hz, front_shift, show j - (i + 1) + 1 = j - i by omega]
/-- A step where it is set: it is cleared, and the divisor's other powers are turned. -/
theorem div_turn (orig : List Bool) (r : BitVec 32) (i : Nat) (h : divAt orig r i i = true) (j : Nat) :
    divAt orig (step r (orig.getD i false)) (i + 1) j = if j = i then false else if j < i then divAt orig r i j else (divAt orig r i j ^^ front P (j - (i + 1))) := by
  have h0 : (orig.getD i false ^^ r.msb) = true := by rw [divAt, if_neg (Nat.lt_irrefl i), Nat.sub_self, front_msb] at h; exact h
  have hz : step r (orig.getD i false) = ((r ^^^ top (orig.getD i false)) <<< 1) ^^^ P := by
    unfold step Z
    rw [BitVec.msb_xor, top_msb]
    rw [show (r.msb ^^ orig.getD i false) = true by rw [Bool.xor_comm]; exact h0]
    simp
  unfold divAt
  by_cases h2 : j = i
  · subst h2
    rw [if_pos (by omega), if_pos rfl]
  · by_cases h1 : j < i
    · rw [if_pos (by omega), if_neg h2, if_pos h1, if_pos h1]
    · rw [if_neg (by omega), if_neg h2, if_neg h1, if_neg h1, hz, front_xor, front_shift, show j - (i + 1) + 1 = j - i by omega, Bool.xor_assoc]

/-- One place turned. -/
def flip (l : List Bool) (a : Nat) : List Bool := l.set a (!(l.getD a false))
theorem flip_length (l : List Bool) (a : Nat) : (flip l a).length = l.length := by simp [flip]
theorem flip_at (l : List Bool) (a j : Nat) (h : j < l.length) : (flip l a).getD j false = (l.getD j false ^^ decide (a = j)) := by
  unfold flip
  by_cases e : a = j
  · subst e
    simp [List.getD, h]
  · simp [List.getD, e]
def flips (l : List Bool) (qs : List Nat) : List Bool := qs.foldl flip l
theorem flips_length (qs : List Nat) : ∀ l : List Bool, (flips l qs).length = l.length := by
  induction qs with
  | nil => intro l; rfl
  | cons a qs ih => intro l; show (flips (flip l a) qs).length = _; rw [ih, flip_length]
def odd (qs : List Nat) (j : Nat) : Bool := qs.foldr (fun a b => decide (a = j) ^^ b) false
theorem flips_at (j : Nat) : ∀ (qs : List Nat) (l : List Bool), j < l.length → (flips l qs).getD j false = (l.getD j false ^^ odd qs j) := by
  intro qs
  induction qs with
  | nil => intro l _; simp [flips, odd]
  | cons a qs ih =>
    intro l h
    show (flips (flip l a) qs).getD j false = _
    rw [ih _ (by rw [flip_length]; exact h), flip_at l a j h, Bool.xor_assoc]
    rfl
def powers : List Nat := [26, 23, 22, 16, 12, 11, 10, 8, 7, 5, 4, 2, 1, 0]
theorem odd_powers (i j : Nat) (hi : i < j) : odd (powers.map (fun p => i + 32 - p)) j = front P (j - (i + 1)) := by
  obtain ⟨k, rfl⟩ : ∃ k, j = i + 1 + k := ⟨j - (i + 1), by omega⟩
  rw [show i + 1 + k - (i + 1) = k by omega]
  have e : ∀ qs : List Nat, (∀ a ∈ qs, a ≤ 31) → odd (qs.map (fun p => i + 32 - p)) (i + 1 + k) = odd (qs.map (fun p => 31 - p)) k := by
    intro qs
    induction qs with
    | nil => intro _; rfl
    | cons a qs ih =>
      intro h
      have ha := h a (by simp)
      show (decide (i + 32 - a = i + 1 + k) ^^ odd (qs.map _) (i + 1 + k)) = (decide (31 - a = k) ^^ odd (qs.map _) k)
      rw [ih (fun x hx => h x (by simp [hx]))]
      congr 1
      rw [decide_eq_decide]
      omega
  rw [e powers (by decide)]
  rcases Nat.lt_or_ge k 32 with h | h
  · have : ∀ k : Fin 32, odd (powers.map (fun p => 31 - p)) k.val = front P k.val := by decide
    exact this ⟨k, h⟩
  · rw [front, decide_eq_false (by omega), Bool.false_and]
    have : ∀ qs : List Nat, (∀ a ∈ qs, a < 32) → odd qs k = false := by
      intro qs
      induction qs with
      | nil => intro _; rfl
      | cons a qs ih =>
        intro hh
        show (decide (a = k) ^^ odd qs k) = false
        have ha := hh a (by simp)
        rw [decide_eq_false (by omega), ih (fun x hx => hh x (by simp [hx]))]
        rfl
    exact this _ (by decide)
/-- The whole step of the reference, where the bit is set. -/
theorem div_flips (orig : List Bool) (r : BitVec 32) (i : Nat) (hi : i + 32 < orig.length) (h : divAt orig r i i = true) :
    flips ((divL orig r i).set i false) (powers.map (fun p => i + 32 - p)) = divL orig (step r (orig.getD i false)) (i + 1) := by
  apply List.ext_getElem
  · rw [flips_length]; simp [divL]
  · intro j h1 h2
    have hj : j < orig.length := by rw [divL_length] at h2; exact h2
    have e1 : ∀ (l : List Bool) (hl : j < l.length), l[j] = l.getD j false := fun l hl => by simp [List.getD, hl]
    rw [e1 _ h1, e1 _ h2, divL_at _ _ _ _ hj, div_turn orig r i h j, flips_at j _ _ (by simpa [divL] using hj)]
    by_cases e : j = i
    · subst e
      rw [if_pos rfl]
      have : odd (powers.map (fun p => j + 32 - p)) j = false := by
        have key : ∀ qs : List Nat, (∀ a ∈ qs, a < 32) → odd (qs.map (fun p => j + 32 - p)) j = false := by
          intro qs
          induction qs with
          | nil => intro _; rfl
          | cons a qs ih =>
            intro hh
            show (decide (j + 32 - a = j) ^^ odd (qs.map _) j) = false
            have ha := hh a (by simp)
            rw [decide_eq_false (by omega), ih (fun x hx => hh x (by simp [hx]))]
            rfl
        exact key powers (by decide)
      rw [this]
      simp [List.getD, divL, hj]
    · rw [if_neg e]
      have hset : ((divL orig r i).set i false).getD j false = divAt orig r i j := by
        rw [← divL_at orig r i j hj]
        have e' : ¬ i = j := fun x => e x.symm
        simp [List.getD, e']
      rw [hset]
      by_cases hlt : j < i
      · rw [if_pos hlt]
        have key : ∀ qs : List Nat, (∀ a ∈ qs, a < 32) → odd (qs.map (fun p => i + 32 - p)) j = false := by
          intro qs
          induction qs with
          | nil => intro _; rfl
          | cons a qs ih =>
            intro hh
            show (decide (i + 32 - a = j) ^^ odd (qs.map _) j) = false
            have ha := hh a (by simp)
            rw [decide_eq_false (by omega), ih (fun x hx => hh x (by simp [hx]))]
            rfl
        rw [key powers (by decide), Bool.xor_false]
      · rw [if_neg hlt, odd_powers i j (by omega)]
/-- Behind i steps the register has taken i bits. -/
theorem feed_take (bs : List Bool) (r : BitVec 32) (i : Nat) (h : i < bs.length) : feed r (bs.take (i + 1)) = step (feed r (bs.take i)) (bs.getD i false) := by
  rw [List.take_succ_eq_append_getElem h, feed_append]
  simp [feed, List.getD, h]

theorem xor3 (a b c : BitVec 32) : (a ^^^ b ^^^ c) ^^^ ones = (a ^^^ ones) ^^^ (b ^^^ ones) ^^^ (c ^^^ ones) := by
  apply BitVec.eq_of_getLsbD_eq
  intro i _
  simp only [BitVec.getLsbD_xor]
  cases a.getLsbD i <;> cases b.getLsbD i <;> cases c.getLsbD i <;> cases ones.getLsbD i <;> rfl
theorem zip_false (ys : List Bool) : List.zipWith (· != ·) (List.replicate ys.length false) ys = ys := by
  induction ys with
  | nil => rfl
  | cons y ys ih => simp only [List.length_cons, List.replicate_succ, List.zipWith_cons_cons, ih]; simp
/-- The sum of two lists of one length, bit by bit. -/
theorem crc_even (xs ys : List Bool) (h : xs.length = ys.length) : crc (List.zipWith (· != ·) xs ys) = crc xs ^^^ crc ys ^^^ crc (List.replicate xs.length false) := by
  unfold crc
  rw [← xor3]
  congr 1
  have h1 : feed ones (List.zipWith (· != ·) xs ys) = feed ones xs ^^^ feed 0 ys := by
    have := feed_xor xs ys ones 0 h
    simpa using this
  have h2 : feed ones ys = feed ones (List.replicate ys.length false) ^^^ feed 0 ys := by
    have := feed_xor (List.replicate ys.length false) ys ones 0 (by simp)
    rw [zip_false] at this
    simpa using this
  rw [h1, h2, h, BitVec.xor_assoc, BitVec.xor_comm (feed ones (List.replicate ys.length false)), BitVec.xor_assoc, BitVec.xor_self, BitVec.xor_zero]
/-- Summed bits with an error e: the sum is told right just where the error leaves the register at nought. -/
theorem check_err (m em : List Bool) (et : BitVec 32) (h : m.length = em.length) : crc (List.zipWith (· != ·) m em) = crc m ^^^ et ↔ feed 0 (em ++ bits32 et) = 0 := by
  rw [feed_append, check_iff]
  have h1 : feed ones (List.zipWith (· != ·) m em) = feed ones m ^^^ feed 0 em := by
    have := feed_xor m em ones 0 h
    simpa using this
  unfold crc
  rw [h1]
  constructor
  · intro e
    have : feed ones m ^^^ ones ^^^ (feed ones m ^^^ feed 0 em ^^^ ones) = feed ones m ^^^ ones ^^^ (feed ones m ^^^ ones ^^^ et) := congrArg (fun v => feed ones m ^^^ ones ^^^ v) e
    rw [← BitVec.xor_assoc (feed ones m ^^^ ones) (feed ones m ^^^ ones) et, BitVec.xor_self, BitVec.zero_xor] at this
    rw [← this]
    apply BitVec.eq_of_getLsbD_eq
    intro i _
    simp only [BitVec.getLsbD_xor]
    cases (feed ones m).getLsbD i <;> cases ones.getLsbD i <;> cases (feed 0 em).getLsbD i <;> rfl
  · intro e
    rw [e]
    apply BitVec.eq_of_getLsbD_eq
    intro i _
    simp only [BitVec.getLsbD_xor]
    cases (feed ones m).getLsbD i <;> cases ones.getLsbD i <;> cases et.getLsbD i <;> rfl
end Go.Proofs.YtbfgdphfeifglaaDoor.Crc

