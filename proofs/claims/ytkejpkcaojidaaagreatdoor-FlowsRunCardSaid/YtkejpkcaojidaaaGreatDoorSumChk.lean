/-
  The contract of sums.Check: the bytes that these are when summed, in new memory, and true; nothing and false, if there are none; nothing that was there has turned. Conditions: the slice's reading, bytes, a length of at most 65536 within the capacity.
-/
import Derived.Test.YtkejpkcaojidaaaGreatDoorMem
import Derived.Test.YtkejpkcaojidaaaGreatDoorKinds
import Derived.Laws.BitsAllLaws
import Derived.Test.YtkejpkcaojidaaaGreatDoorApp
import Derived.Test.YtkejpkcaojidaaaGreatDoorKeep
import Derived.Deep.RegionHeld3
namespace Go.Proofs.YtkejpkcaojidaaaGreatDoor.Crc
set_option linter.unusedVariables false
set_option linter.unusedSimpArgs false

/-- The divisor, but for its greatest power. -/
def P : BitVec 32 := 0x04c11db7
/-- One shift of the register. -/
def Z (r : BitVec 32) : BitVec 32 := if r.msb then (r <<< 1) ^^^ P else r <<< 1
def top (b : Bool) : BitVec 32 := if b then 0x80000000 else 0
/-- One bit more. -/
def step (r : BitVec 32) (b : Bool) : BitVec 32 := Z (r ^^^ top b)
def feed (r : BitVec 32) (bs : List Bool) : BitVec 32 := bs.foldl step r
def ones : BitVec 32 := 0xffffffff
/-- The sum of bits. -/
def crc (bs : List Bool) : BitVec 32 := feed ones bs ^^^ ones

theorem Z_xor (a b : BitVec 32) : Z (a ^^^ b) = Z a ^^^ Z b := by
  unfold Z
  rw [BitVec.msb_xor, BitVec.shiftLeft_xor_distrib]
  cases ha : a.msb <;> cases hb : b.msb
  · simp
  · simp [BitVec.xor_assoc]
  · simp only [Bool.true_bne, Bool.not_false, if_true, Bool.false_eq_true, if_false]
    rw [BitVec.xor_assoc, BitVec.xor_assoc, BitVec.xor_comm (b <<< 1) P]
  · simp only [bne_self_eq_false, Bool.false_eq_true, if_false, if_true]
    rw [BitVec.xor_assoc, ← BitVec.xor_assoc P, BitVec.xor_comm P, BitVec.xor_assoc (b <<< 1), BitVec.xor_self, BitVec.xor_zero]
theorem feed_append (r : BitVec 32) (xs ys : List Bool) : feed r (xs ++ ys) = feed (feed r xs) ys := List.foldl_append
def Zn : Nat → BitVec 32 → BitVec 32
  | 0, r => r
  | n + 1, r => Zn n (Z r)
/-- The bits of a list, as many as 32, at the register's upper end. -/
def left : List Bool → BitVec 32
  | [] => 0
  | b :: bs => top b ^^^ (left bs >>> 1)
theorem left_low : ∀ (bs : List Bool) (i : Nat), i + bs.length < 32 → (left bs).getLsbD i = false := by
  intro bs
  induction bs with
  | nil => intro i _; simp [left]
  | cons b bs ih =>
    intro i hi
    have hi' : i + 1 + bs.length < 32 := by simp at hi; omega
    rw [left, BitVec.getLsbD_xor, BitVec.getLsbD_ushiftRight, Nat.add_comm 1 i, ih (i + 1) hi']
    have : (top b).getLsbD i = false := by
      cases b
      · simp [top]
      · have h31 : i < 31 := by simp at hi; omega
        simp only [top, if_true]
        show (0x80000000 : BitVec 32).getLsbD i = false
        have : ∀ k : Fin 31, (0x80000000 : BitVec 32).getLsbD k.val = false := by decide
        exact this ⟨i, h31⟩
    rw [this]
    rfl
theorem Z_half (d : BitVec 32) (h : d.getLsbD 0 = false) : Z (d >>> 1) = d := by
  have hm : (d >>> 1).msb = false := by
    rw [BitVec.msb_eq_getLsbD_last, BitVec.getLsbD_ushiftRight]
    simp
  unfold Z
  rw [hm]
  simp only [Bool.false_eq_true, if_false]
  apply BitVec.eq_of_getLsbD_eq
  intro i hi
  rw [BitVec.getLsbD_shiftLeft]
  rcases Nat.eq_zero_or_pos i with h0 | h0
  · subst h0
    rw [h]
    rfl
  · rw [BitVec.getLsbD_ushiftRight, show 1 + (i - 1) = i by omega, decide_eq_true hi, decide_eq_false (by omega)]
    rfl
theorem feed_left : ∀ (bs : List Bool) (r : BitVec 32), bs.length ≤ 32 → feed r bs = Zn bs.length (r ^^^ left bs) := by
  intro bs
  induction bs with
  | nil => intro r _; show r = r ^^^ left []; simp [left]
  | cons b bs ih =>
    intro r hl
    have hl' : bs.length ≤ 31 := by simp at hl; omega
    show feed (step r b) bs = Zn bs.length (Z (r ^^^ left (b :: bs)))
    rw [ih _ (by omega)]
    congr 1
    rw [left, ← BitVec.xor_assoc, Z_xor, Z_half _ (left_low bs 0 (by omega))]
    rfl
theorem left_get : ∀ (bs : List Bool) (i : Nat), bs.length ≤ 32 → i < 32 → (left bs).getLsbD i = bs.getD (31 - i) false := by
  intro bs
  induction bs with
  | nil => intro i _ _; simp [left]
  | cons b bs ih =>
    intro i hl hi
    have hl' : bs.length ≤ 31 := by simp at hl; omega
    rw [left, BitVec.getLsbD_xor, BitVec.getLsbD_ushiftRight]
    rcases Nat.lt_or_ge i 31 with h | h
    · rw [ih (1 + i) (by omega) (by omega), show 31 - i = (31 - (1 + i)) + 1 by omega, List.getD_cons_succ]
      have : (top b).getLsbD i = false := by
        cases b
        · simp [top]
        · have : ∀ k : Fin 31, (0x80000000 : BitVec 32).getLsbD k.val = false := by decide
          exact this ⟨i, h⟩
      rw [this, Bool.false_xor]
    · obtain rfl : i = 31 := by omega
      have : (left bs).getLsbD (1 + 31) = false := BitVec.getLsbD_of_ge _ _ (by omega)
      rw [this]
      cases b <;> simp [top]
end Go.Proofs.YtkejpkcaojidaaaGreatDoor.Crc

namespace Go.Proofs.YtkejpkcaojidaaaGreatDoor.Crc

/-- The register's bits on a list's front, the greatest first. -/
def front (r : BitVec 32) (k : Nat) : Bool := decide (k < 32) && r.getLsbD (31 - k)
/-- The division's list behind i steps: the register r on the front of what is left. -/
def divAt (orig : List Bool) (r : BitVec 32) (i j : Nat) : Bool := if j < i then false else (orig.getD j false ^^ front r (j - i))
def divL (orig : List Bool) (r : BitVec 32) (i : Nat) : List Bool := (List.range orig.length).map (divAt orig r i)
theorem divL_length (orig : List Bool) (r : BitVec 32) (i : Nat) : (divL orig r i).length = orig.length := by simp [divL]
theorem divL_at (orig : List Bool) (r : BitVec 32) (i j : Nat) (h : j < orig.length) : (divL orig r i).getD j false = divAt orig r i j := by simp [divL, h]

theorem front_msb (r : BitVec 32) : front r 0 = r.msb := by
  rw [BitVec.msb_eq_getLsbD_last]
  simp [front]
theorem top_low (b : Bool) (k : Nat) (h : k < 31) : (top b).getLsbD k = false := by
  cases b
  · simp [top]
  · have : ∀ k : Fin 31, (0x80000000 : BitVec 32).getLsbD k.val = false := by decide
    exact this ⟨k, h⟩
theorem top_msb (b : Bool) : (top b).msb = b := by cases b <;> decide
theorem front_shift (r : BitVec 32) (b : Bool) (k : Nat) : front ((r ^^^ top b) <<< 1) k = front r (k + 1) := by
  unfold front
  rcases Nat.lt_or_ge k 31 with h | h
  · rw [BitVec.getLsbD_shiftLeft, BitVec.getLsbD_xor, show 31 - k - 1 = 30 - k by omega, top_low b (30 - k) (by omega), show 31 - (k + 1) = 30 - k by omega,
      decide_eq_true (show k < 32 by omega), decide_eq_true (show k + 1 < 32 by omega), decide_eq_true (show 31 - k < 32 by omega), decide_eq_false (show ¬ 31 - k < 1 by omega)]
    simp
  · rw [decide_eq_false (show ¬ k + 1 < 32 by omega), Bool.false_and]
    rcases Nat.eq_or_lt_of_le h with e | e
    · subst e; rw [BitVec.getLsbD_shiftLeft]; simp
    · rw [decide_eq_false (by omega), Bool.false_and]
theorem front_xor (a b : BitVec 32) (k : Nat) : front (a ^^^ b) k = (front a k ^^ front b k) := by
  unfold front
  cases decide (k < 32) <;> simp
/-- A step where the next bit of what is left is not set: the list stays. -/
theorem div_keep (orig : List Bool) (r : BitVec 32) (i : Nat) (h : divAt orig r i i = false) : divL orig (step r (orig.getD i false)) (i + 1) = divL orig r i := by
  have h0 : (orig.getD i false ^^ r.msb) = false := by rw [divAt, if_neg (Nat.lt_irrefl i), Nat.sub_self, front_msb] at h; exact h
  have hz : step r (orig.getD i false) = (r ^^^ top (orig.getD i false)) <<< 1 := by
    unfold step Z
    rw [BitVec.msb_xor, top_msb]
    rw [show (r.msb ^^ orig.getD i false) = false by rw [Bool.xor_comm]; exact h0]
    simp
  unfold divL
  apply List.map_congr_left
  intro j _
  unfold divAt
  by_cases h1 : j < i
  · rw [if_pos (by omega), if_pos h1]
  · by_cases h2 : j = i
    · subst h2
      rw [if_pos (by omega), if_neg h1, Nat.sub_self, front_msb]
      exact h0.symm
    · rw [if_neg (by omega), if_neg h1, hz, front_shift, show j - (i + 1) + 1 = j - i by omega]
/-- A step where it is set: it is cleared, and the divisor's other powers are turned. -/
theorem div_turn (orig : List Bool) (r : BitVec 32) (i : Nat) (h : divAt orig r i i = true) (j : Nat) :
    divAt orig (step r (orig.getD i false)) (i + 1) j = if j = i then false else if j < i then divAt orig r i j else (divAt orig r i j ^^ front P (j - (i + 1))) := by
  have h0 : (orig.getD i false ^^ r.msb) = true := by rw [divAt, if_neg (Nat.lt_irrefl i), Nat.sub_self, front_msb] at h; exact h
  have hz : step r (orig.getD i false) = ((r ^^^ top (orig.getD i false)) <<< 1) ^^^ P := by
    unfold step Z
    rw [BitVec.msb_xor, top_msb]
    rw [show (r.msb ^^ orig.getD i false) = true by rw [Bool.xor_comm]; exact h0]
    simp
  unfold divAt
  by_cases h2 : j = i
  · subst h2
    rw [if_pos (by omega), if_pos rfl]
  · by_cases h1 : j < i
    · rw [if_pos (by omega), if_neg h2, if_pos h1, if_pos h1]
    · rw [if_neg (by omega), if_neg h2, if_neg h1, if_neg h1, hz, front_xor, front_shift, show j - (i + 1) + 1 = j - i by omega, Bool.xor_assoc]

/-- One place turned. -/
def flip (l : List Bool) (a : Nat) : List Bool := l.set a (!(l.getD a false))
theorem flip_length (l : List Bool) (a : Nat) : (flip l a).length = l.length := by simp [flip]
theorem flip_at (l : List Bool) (a j : Nat) (h : j < l.length) : (flip l a).getD j false = (l.getD j false ^^ decide (a = j)) := by
  unfold flip
  by_cases e : a = j
  · subst e
    simp [List.getD, h]
  · simp [List.getD, e]
def flips (l : List Bool) (qs : List Nat) : List Bool := qs.foldl flip l
theorem flips_length (qs : List Nat) : ∀ l : List Bool, (flips l qs).length = l.length := by
  induction qs with
  | nil => intro l; rfl
  | cons a qs ih => intro l; show (flips (flip l a) qs).length = _; rw [ih, flip_length]
def odd (qs : List Nat) (j : Nat) : Bool := qs.foldr (fun a b => decide (a = j) ^^ b) false
theorem flips_at (j : Nat) : ∀ (qs : List Nat) (l : List Bool), j < l.length → (flips l qs).getD j false = (l.getD j false ^^ odd qs j) := by
  intro qs
  induction qs with
  | nil => intro l _; simp [flips, odd]
  | cons a qs ih =>
    intro l h
    show (flips (flip l a) qs).getD j false = _
    rw [ih _ (by rw [flip_length]; exact h), flip_at l a j h, Bool.xor_assoc]
    rfl
def powers : List Nat := [26, 23, 22, 16, 12, 11, 10, 8, 7, 5, 4, 2, 1, 0]
theorem odd_powers (i j : Nat) (hi : i < j) : odd (powers.map (fun p => i + 32 - p)) j = front P (j - (i + 1)) := by
  obtain ⟨k, rfl⟩ : ∃ k, j = i + 1 + k := ⟨j - (i + 1), by omega⟩
  rw [show i + 1 + k - (i + 1) = k by omega]
  have e : ∀ qs : List Nat, (∀ a ∈ qs, a ≤ 31) → odd (qs.map (fun p => i + 32 - p)) (i + 1 + k) = odd (qs.map (fun p => 31 - p)) k := by
    intro qs
    induction qs with
    | nil => intro _; rfl
    | cons a qs ih =>
      intro h
      have ha := h a (by simp)
      show (decide (i + 32 - a = i + 1 + k) ^^ odd (qs.map _) (i + 1 + k)) = (decide (31 - a = k) ^^ odd (qs.map _) k)
      rw [ih (fun x hx => h x (by simp [hx]))]
      congr 1
      rw [decide_eq_decide]
      omega
  rw [e powers (by decide)]
  rcases Nat.lt_or_ge k 32 with h | h
  · have : ∀ k : Fin 32, odd (powers.map (fun p => 31 - p)) k.val = front P k.val := by decide
    exact this ⟨k, h⟩
  · rw [front, decide_eq_false (by omega), Bool.false_and]
    have : ∀ qs : List Nat, (∀ a ∈ qs, a < 32) → odd qs k = false := by
      intro qs
      induction qs with
      | nil => intro _; rfl
      | cons a qs ih =>
        intro hh
        show (decide (a = k) ^^ odd qs k) = false
        have ha := hh a (by simp)
        rw [decide_eq_false (by omega), ih (fun x hx => hh x (by simp [hx]))]
        rfl
    exact this _ (by decide)
/-- The whole step of the reference, where the bit is set. -/
theorem div_flips (orig : List Bool) (r : BitVec 32) (i : Nat) (hi : i + 32 < orig.length) (h : divAt orig r i i = true) :
    flips ((divL orig r i).set i false) (powers.map (fun p => i + 32 - p)) = divL orig (step r (orig.getD i false)) (i + 1) := by
  apply List.ext_getElem
  · rw [flips_length]; simp [divL]
  · intro j h1 h2
    have hj : j < orig.length := by rw [divL_length] at h2; exact h2
    have e1 : ∀ (l : List Bool) (hl : j < l.length), l[j] = l.getD j false := fun l hl => by simp [List.getD, hl]
    rw [e1 _ h1, e1 _ h2, divL_at _ _ _ _ hj, div_turn orig r i h j, flips_at j _ _ (by simpa [divL] using hj)]
    by_cases e : j = i
    · subst e
      rw [if_pos rfl]
      have : odd (powers.map (fun p => j + 32 - p)) j = false := by
        have key : ∀ qs : List Nat, (∀ a ∈ qs, a < 32) → odd (qs.map (fun p => j + 32 - p)) j = false := by
          intro qs
          induction qs with
          | nil => intro _; rfl
          | cons a qs ih =>
            intro hh
            show (decide (j + 32 - a = j) ^^ odd (qs.map _) j) = false
            have ha := hh a (by simp)
            rw [decide_eq_false (by omega), ih (fun x hx => hh x (by simp [hx]))]
            rfl
        exact key powers (by decide)
      rw [this]
      simp [List.getD, divL, hj]
    · rw [if_neg e]
      have hset : ((divL orig r i).set i false).getD j false = divAt orig r i j := by
        rw [← divL_at orig r i j hj]
        have e' : ¬ i = j := fun x => e x.symm
        simp [List.getD, e']
      rw [hset]
      by_cases hlt : j < i
      · rw [if_pos hlt]
        have key : ∀ qs : List Nat, (∀ a ∈ qs, a < 32) → odd (qs.map (fun p => i + 32 - p)) j = false := by
          intro qs
          induction qs with
          | nil => intro _; rfl
          | cons a qs ih =>
            intro hh
            show (decide (i + 32 - a = j) ^^ odd (qs.map _) j) = false
            have ha := hh a (by simp)
            rw [decide_eq_false (by omega), ih (fun x hx => hh x (by simp [hx]))]
            rfl
        rw [key powers (by decide), Bool.xor_false]
      · rw [if_neg hlt, odd_powers i j (by omega)]
/-- Behind i steps the register has taken i bits. -/
theorem feed_take (bs : List Bool) (r : BitVec 32) (i : Nat) (h : i < bs.length) : feed r (bs.take (i + 1)) = step (feed r (bs.take i)) (bs.getD i false) := by
  rw [List.take_succ_eq_append_getElem h, feed_append]
  simp [feed, List.getD, h]

end Go.Proofs.YtkejpkcaojidaaaGreatDoor.Crc

namespace Go.Proofs.YtkejpkcaojidaaaGreatDoor
open Go.RowKit

namespace Crc
def iv (r : BitVec 32) : Int := (r.toNat : Int)
theorem iv_lo (r : BitVec 32) : 0 ≤ iv r := Int.natCast_nonneg _
theorem iv_hi (r : BitVec 32) : iv r < 4294967296 := by have := r.isLt; unfold iv; omega
theorem iv_xor (a b : BitVec 32) : bits .xor .u32 (iv a) (iv b) = iv (a ^^^ b) := by
  have ha := a.isLt
  have hb := b.isLt
  unfold iv
  rw [u32_xor_nat _ _ ha hb, BitVec.toNat_xor]
def Zi : Nat → BitVec 32 → BitVec 32
  | 0, r => r
  | n + 1, r => Z (Zi n r)
theorem Zn_Z (n : Nat) : ∀ r, Zn n (Z r) = Z (Zn n r) := by
  induction n with
  | zero => intro r; rfl
  | succ n ih => intro r; show Zn n (Z (Z r)) = Z (Zn n (Z r)); rw [ih]
theorem Zi_Zn (n : Nat) (r : BitVec 32) : Zi n r = Zn n r := by
  induction n with
  | zero => rfl
  | succ n ih => show Z (Zi n r) = Zn n (Z r); rw [ih, Zn_Z]
/-- A byte's bits, the greatest first. -/
def bits8 (x : Int) : List Bool := (List.range 8).map fun i => x.toNat.testBit (7 - i)
theorem bits8_length (x : Int) : (bits8 x).length = 8 := by simp [bits8]
theorem left_bits8 (x : Int) (h0 : 0 ≤ x) (h1 : x ≤ 255) : iv (left (bits8 x)) = x * 16777216 := by
  have e : left (bits8 x) = BitVec.ofNat 32 (x.toNat <<< 24) := by
    apply BitVec.eq_of_getLsbD_eq
    intro i hi
    rw [left_get _ _ (by rw [bits8_length]; omega) hi, BitVec.getLsbD_ofNat, Nat.testBit_shiftLeft, bits8, decide_eq_true hi, Bool.true_and]
    rcases Nat.lt_or_ge i 24 with h | h
    · rw [decide_eq_false (by omega), Bool.false_and]
      simp [List.getD, show ¬ 31 - i < 8 by omega]
    · rw [decide_eq_true (by omega), Bool.true_and]
      simp [List.getD, show 31 - i < 8 by omega, show 7 - (31 - i) = i - 24 by omega]
  rw [e, iv, BitVec.toNat_ofNat, Nat.shiftLeft_eq, Nat.mod_eq_of_lt (by omega)]
  omega
theorem feed_byte (r : BitVec 32) (x : Int) : feed r (bits8 x) = Zi 8 (r ^^^ left (bits8 x)) := by
  rw [Zi_Zn, feed_left _ _ (by rw [bits8_length]; omega), bits8_length]
theorem msb_iv (r : BitVec 32) : r.msb = decide (2147483648 ≤ iv r) := by
  rw [BitVec.msb_eq_decide]
  have e : (2 : Nat) ^ (32 - 1) = 2147483648 := by decide
  rw [e]
  unfold iv
  congr 1
  rw [eq_iff_iff]
  omega
theorem and_top (r : BitVec 32) : bits .and .u32 (iv r) 2147483648 = if r.msb then 2147483648 else 0 := by
  have ha := r.isLt
  have h := u32_and_nat r.toNat 2147483648 ha (by decide)
  have e : r.toNat &&& 2147483648 = if r.msb then 2147483648 else 0 := by
    have : (r &&& 0x80000000#32).toNat = (if r.msb then 0x80000000#32 else 0#32).toNat := by
      congr 1
      apply BitVec.eq_of_getLsbD_eq
      intro i hi
      rcases Nat.lt_or_ge i 31 with h | h
      · have h31 : ∀ k : Fin 31, (0x80000000#32).getLsbD k.val = false := by decide
        have h31' : (0x80000000#32).getLsbD i = false := h31 ⟨i, h⟩
        rw [BitVec.getLsbD_and, h31', Bool.and_false]
        split
        · exact h31'.symm
        · simp
      · obtain rfl : i = 31 := by omega
        rw [BitVec.getLsbD_and, ← show r.msb = r.getLsbD 31 from BitVec.msb_eq_getLsbD_last r]
        cases r.msb <;> decide
    rw [BitVec.toNat_and] at this
    rw [show (2147483648 : Nat) = (0x80000000#32).toNat by decide, this]
    split <;> rfl
  unfold iv
  rw [show ((2147483648 : Int)) = ((2147483648 : Nat) : Int) by rfl, h, e]
  split <;> rfl
theorem iv_shl (r : BitVec 32) : iv (r <<< 1) = iv r * 2 % 4294967296 := by
  unfold iv
  rw [BitVec.toNat_shiftLeft, Nat.shiftLeft_eq]
  omega
theorem iv_P : iv P = 79764919 := by decide
end Crc
open Crc

set_option maxRecDepth 100000 in
theorem take_any (g : Nat) (r : BitVec 32) (x : Int) (w : World) (hB : Blk w g 253 #[.int .u32 (iv r)]) (hx0 : 0 ≤ x) (hx1 : x ≤ 255) :
    Calls Tryz.prog 146 #[.pointer (some ⟨g, 0, none⟩), .int .u8 x] w fun e w' => e = .returned (.tuple #[]) ∧ w' = w.setCell ⟨g, 0, none⟩ (.int .u32 (iv (feed r (bits8 x)))) := by
  have hc := hB.cell 0
  have hf := hB.frozen 0
  simp at hc
  have h0 := iv_lo r
  have h1 := iv_hi r
  have hF := Lib.hid (feed_byte r x)
  have hX := iv_xor r (left (bits8 x))
  rw [left_bits8 x hx0 hx1] at hX
  obtain ⟨l, hl⟩ : ∃ l, l = r ^^^ left (bits8 x) := ⟨_, rfl⟩
  rw [← hl] at hX hF
  clear hl
  obtain ⟨v, hv⟩ : ∃ v, v = iv r := ⟨_, rfl⟩
  rw [← hv] at h0 h1 hX hc
  clear hv
  go_enter Tryz.func146, Tryz.ntmps146
  go_wp2
  clear hX
  go_loop [4, 13] (fun a i => ∃ k : Nat, k ≤ 8 ∧ i = .int .i64 k ∧ a = .int .u32 (iv (Zi k l))) (fun _ i => 8 - (intOf i).toNat)
  case atStart => exact ⟨0, by omega, rfl, rfl⟩
  case round =>
    obtain ⟨k, hk, rfl, rfl⟩ := hrel
    by_cases hlt : k < 8
    · have ht := and_top (Zi k l)
      have hm := msb_iv (Zi k l)
      have hs := iv_shl (Zi k l)
      have hZ := Lib.hid (show Zi (k + 1) l = Z (Zi k l) from rfl)
      unfold Z at hZ
      have hy0 := iv_lo (Zi k l)
      have hy1 := iv_hi (Zi k l)
      have hx' := iv_xor (Zi k l <<< 1) P
      rw [iv_P] at hx'
      obtain ⟨q, hq⟩ : ∃ q, q = Zi k l := ⟨_, rfl⟩
      rw [← hq] at ht hm hs hZ hy0 hy1 hx' ⊢
      clear hq
      rw [hs] at hx'
      obtain ⟨y, hy⟩ : ∃ y, y = iv q := ⟨_, rfl⟩
      obtain ⟨z, hz⟩ : ∃ z, z = iv (q <<< 1) := ⟨_, rfl⟩
      obtain ⟨t, ht'⟩ : ∃ t, t = iv (q <<< 1 ^^^ P) := ⟨_, rfl⟩
      rw [← hy] at ht hm hs hy0 hy1 hx' ⊢
      rw [← ht'] at hx'
      have hzy : y * 2 % 4294967296 = z := by rw [hz, hs]
      clear hs
      have HZ := Lib.hid hz
      have HT := Lib.hid ht'
      clear hz ht' hy
      cases hb : q.msb
      · rw [hb] at ht hm hZ
        simp at ht hm hZ
        have hzy' := Lib.hid hzy
        clear hzy hx' hb hB
        go_wp2
        go_round
        case rel => exact ⟨k + 1, by omega, by go_num, congrArg (Value.int .u32) (by rw [hZ.out, ← HZ.out, ← hzy'.out]; omega)⟩
        case measure => simp [intOf]; omega
      · rw [hb] at ht hm hZ
        simp at ht hm hZ
        clear hb hB
        go_wp2
        go_round
        case rel => exact ⟨k + 1, by omega, by go_num, congrArg (Value.int .u32) (by rw [hZ.out, ← HT.out, ← hx', hzy])⟩
        case measure => simp [intOf]; omega
    · have hk8 : k = 8 := by omega
      subst hk8
      go_wp2
      go_end0
      exact ⟨rfl, by rw [hF.out]⟩
end Go.Proofs.YtkejpkcaojidaaaGreatDoor

namespace Go.Proofs.YtkejpkcaojidaaaGreatDoor
open Go.RowKit Crc

/-- A list of lists of bytes: a row of slices, each of which reads as bytes. -/
structure Parts (w : World) (A : Option Addr) (n : Nat) (ps : List (List Int)) : Prop where
  len : ps.length = n
  few : n ≤ 8
  at_ : ∀ i, i < n → ∃ b off, A = some ⟨b, off, none⟩ ∧ b < w.heap.size ∧ ∃ B m c, w.cell? ⟨b, off + i, none⟩ = some (.slice B m c) ∧ Lies .u8 w w.heap.size B m (ps.getD i []) ∧ m ≤ 65536
  byte : ∀ l ∈ ps, ∀ x ∈ l, 0 ≤ x ∧ x ≤ 255
theorem Parts.on {w w' : World} {A : Option Addr} {n : Nat} {ps : List (List Int)} (h : Parts w A n ps) (hb : Below w.heap.size w w') : Parts w' A n ps :=
  ⟨h.len, h.few, fun i hi => by
    obtain ⟨b, off, e, hlt, B, m, c, hc, hl, hm⟩ := h.at_ i hi
    exact ⟨b, off, e, Nat.lt_of_lt_of_le hlt hb.size, B, m, c, (hb.cell (p := ⟨b, off + i, none⟩) hlt).trans hc, hl.on hb, hm⟩, h.byte⟩

/-- The bits of a list of bytes. -/
def bitsL (l : List Int) : List Bool := l.flatMap bits8
theorem bitsL_append (a b : List Int) : bitsL (a ++ b) = bitsL a ++ bitsL b := by simp [bitsL]
theorem feed_snoc (r : BitVec 32) (l : List Int) (k : Nat) (h : k < l.length) : feed r (bitsL (l.take (k + 1))) = feed (feed r (bitsL (l.take k))) (bits8 (l.getD k 0)) := by
  rw [List.take_succ_eq_append_getElem h, bitsL_append, feed_append, getD_at l k h]
  simp [bitsL]
theorem parts_snoc (ps : List (List Int)) (k : Nat) (h : k < ps.length) : (ps.take (k + 1)).flatten = (ps.take k).flatten ++ ps.getD k [] := by
  rw [List.take_succ_eq_append_getElem h, List.flatten_append]
  congr 1
  simp [List.getD, h]

set_option maxRecDepth 100000 in
theorem each_any (A : Option Addr) (n c g : Nat) (r : BitVec 32) (ps : List (List Int)) (w : World) (hp : Parts w A n ps) (hg : w.heap.size ≤ g) (W : World) (hW : Below w.heap.size w W) (hB : Blk W g 253 #[.int .u32 (iv r)]) :
    Calls Tryz.prog 145 #[.slice A n c, .func (.func 146) #[.pointer (some ⟨g, 0, none⟩)] #[]] W fun e w' => e = .returned (.tuple #[]) ∧ Blk w' g 253 #[.int .u32 (iv (feed r (bitsL ps.flatten)))] ∧ Below w.heap.size w w' := by
  have HP := Lib.hid hp
  have hfew := hp.few
  have HL := Lib.hid hp.len
  clear hp
  go_enter Tryz.func145, Tryz.ntmps145
  go_wp2_with fail
  go_loopw [10] (fun iv' wr => ∃ i : Nat, i ≤ n ∧ iv' = .int .i64 i ∧ Blk wr g 253 #[.int .u32 (iv (feed r (bitsL (ps.take i).flatten)))] ∧ Below w.heap.size w wr) (fun iv' _ => n - (intOf iv').toNat)
  case atStart => exact ⟨0, Nat.zero_le _, rfl, hB, hW⟩
  case round =>
    clear hB hW
    obtain ⟨i, hi, rfl, hB, hb⟩ := hrel
    by_cases hlt : i < n
    · have hlti : (i : Int) < (n : Int) := by omega
      obtain ⟨b, off, rfl, hbl, B, m, cc, hcp, hlp, hm⟩ := HP.out.at_ i hlt
      have hcp' := (hb.cell (p := ⟨b, off + i, none⟩) hbl).trans hcp
      have HS := Lib.hid (parts_snoc ps i (by rw [HL.out]; exact hlt))
      have HBY := Lib.hid (HP.out.byte (ps.getD i []) (by rw [List.getD, List.getElem?_eq_getElem (by rw [HL.out]; exact hlt)]; exact List.getElem_mem _))
      obtain ⟨l, hl⟩ : ∃ l, l = ps.getD i [] := ⟨_, rfl⟩
      obtain ⟨r1, hr1⟩ : ∃ r1, r1 = feed r (bitsL (ps.take i).flatten) := ⟨_, rfl⟩
      rw [← hl] at hlp HS HBY
      rw [← hr1] at hB
      have HR := Lib.hid hr1
      clear hl hr1 hcp
      go_wp2_with fail
      go_loopw [16] (fun jv wx => ∃ j : Nat, j ≤ m ∧ jv = .int .i64 j ∧ Blk wx g 253 #[.int .u32 (iv (feed r1 (bitsL (l.take j))))] ∧ Below w.heap.size w wx) (fun jv _ => m - (intOf jv).toNat)
      case atStart => exact ⟨0, Nat.zero_le _, rfl, hB, hb⟩
      case round =>
        clear hB hb hcp'
        obtain ⟨j, hj, rfl, hB, hb⟩ := hrel
        by_cases hjm : j < m
        · have hjmi : (j : Int) < (m : Int) := by omega
          obtain ⟨b', off', rfl, hbl', hc'⟩ := hlp.at_ (by omega)
          have hcell := (hb.cell (p := ⟨b', off' + j, none⟩) hbl').trans (hc' j hjm)
          have hxb := HBY.out (l.getD j 0) (by rw [getD_at _ _ (by rw [hlp.len]; exact hjm)]; exact List.getElem_mem _)
          have HF := Lib.hid (feed_snoc r1 l j (by rw [hlp.len]; exact hjm))
          obtain ⟨x, hx⟩ : ∃ x, x = l.getD j 0 := ⟨_, rfl⟩
          rw [← hx] at hcell hxb HF
          clear hx hc'
          obtain ⟨hx0, hx1⟩ := hxb
          obtain ⟨r2, hr2⟩ : ∃ r2, r2 = feed r1 (bitsL (l.take j)) := ⟨_, rfl⟩
          rw [← hr2] at hB HF
          clear hr2
          have hB2 := hB.set_ 0 (.int .u32 (iv (feed r2 (bits8 x))))
          simp at hB2
          go_wp2_with (go_at_call 146; with_reducible refine (take_any g r2 x wr hB hx0 hx1).mono ?_; rintro e w' ⟨rfl, rfl⟩)
          go_roundw
          case rel => exact ⟨j + 1, by omega, by go_num, by rw [HF.out]; exact hB2, hb.setCell hg _⟩
          case measure => simp [intOf]; omega
        · have hjmi : (m : Int) ≤ (j : Int) := by omega
          go_wp2_with fail
          go_roundw
          case rel => exact ⟨i + 1, by omega, by go_num, by rw [HS.out, bitsL_append, feed_append, ← HR.out]; rw [List.take_of_length_le (by rw [hlp.len]; omega)] at hB; exact hB, hb⟩
          case measure => simp [intOf]; omega
    · have hlti : (n : Int) ≤ (i : Int) := by omega
      go_wp2_with fail
      go_end0
      exact ⟨rfl, by rw [List.take_of_length_le (by rw [HL.out]; omega)] at hB; exact hB, hb⟩
theorem iv_ones : iv ones = 4294967295 := by decide
theorem iv_max (q : BitVec 32) : bits .xor .u32 IntKind.u32.max (iv q) = iv (q ^^^ ones) := by
  rw [show IntKind.u32.max = iv ones from iv_ones.symm, iv_xor, BitVec.xor_comm]

set_option maxRecDepth 100000 in
theorem sumOf_any (A : Option Addr) (n c : Nat) (ps : List (List Int)) (w : World) (hp : Parts w A n ps) :
    Calls Tryz.prog 142 #[.slice A n c] w fun e w' => e = .returned (.int .u32 (iv (crc (bitsL ps.flatten)))) ∧ Below w.heap.size w w' := by
  have hmf : ∀ (fn : Fn) (first cap : Array Value) (w : World), (Instr.makeFunc fn first cap).run Tryz.prog w = .ok (.func fn first cap) w := fun _ _ _ _ => rfl
  go_enter Tryz.func142, Tryz.ntmps142
  go_wp2_with fail
  have hB := Blk.new w 253 #[.int .u32 4294967295]
  rw [← iv_ones] at hB ⊢
  with_reducible refine (each_any A n c w.heap.size ones ps w hp (Nat.le_refl _) _ (below_al (Below.refl _ _) _) hB).mono ?_
  rintro e w1 ⟨rfl, hB1, hb1⟩
  have hc := hB1.cell 0
  simp at hc
  have hN := iv_max (feed ones (bitsL ps.flatten))
  have h0 := iv_lo (feed ones (bitsL ps.flatten))
  have h1 := iv_hi (feed ones (bitsL ps.flatten))
  have HC := Lib.hid (show crc (bitsL ps.flatten) = feed ones (bitsL ps.flatten) ^^^ ones from rfl)
  obtain ⟨q, hq⟩ : ∃ q, q = feed ones (bitsL ps.flatten) := ⟨_, rfl⟩
  rw [← hq] at hc hN h0 h1 HC
  clear hq hB hB1 hp
  obtain ⟨v, hv⟩ : ∃ v, v = iv q := ⟨_, rfl⟩
  rw [← hv] at hc hN h0 h1
  have HN := Lib.hid hN
  clear hN hv
  go_wp2_with fail
  go_ret
  exact ⟨ret_int (by rw [HC.out]; exact HN.out), hb1⟩

/-- The number of bytes. -/
def numB (l : List Int) : Int := l.foldl (fun n x => n * 256 + x) 0
theorem numB_snoc (l : List Int) (k : Nat) (h : k < l.length) : numB (l.take (k + 1)) = numB (l.take k) * 256 + l.getD k 0 := by
  unfold numB
  rw [List.take_succ_eq_append_getElem h, List.foldl_append, getD_at l k h]
  rfl
theorem numB_bd (l : List Int) (hb : ∀ x ∈ l, 0 ≤ x ∧ x ≤ 255) : ∀ k, k ≤ l.length → 0 ≤ numB (l.take k) ∧ numB (l.take k) < 256 ^ k := by
  intro k
  induction k with
  | zero => intro _; simp [numB]
  | succ k ih =>
    intro h
    have h1 := ih (by omega)
    have h2 := hb (l.getD k 0) (by rw [getD_at l k (by omega)]; exact List.getElem_mem _)
    rw [numB_snoc l k (by omega), Int.pow_succ]
    omega
theorem pow256 (k : Nat) (h : k < 4) : (256 : Int) ^ k ≤ 16777216 := by
  match k, h with
  | 0, _ => decide
  | 1, _ => decide
  | 2, _ => decide
  | 3, _ => decide
theorem or_low32 (n x : Int) (h0 : 0 ≤ n) (h1 : n < 16777216) (h2 : 0 ≤ x) (h3 : x ≤ 255) : bits .or .u32 (n * 256) x = n * 256 + x := by
  rw [u32_or _ _ (by omega) (by omega) h2 (by omega), nat_join 8 _ _ (by omega) (by omega)]
  omega
theorem number_any (A : Option Addr) (c : Nat) (l : List Int) (w : World) (hx : Lies .u8 w w.heap.size A 4 l) (hbd : ∀ x ∈ l, 0 ≤ x ∧ x ≤ 255) :
    Calls Tryz.prog 150 #[.slice A 4 c] w fun e w' => e = .returned (.int .u32 (numB l)) ∧ w = w' := by
  have HL := Lib.hid hx.len
  have HB := Lib.hid hbd
  clear hbd
  go_enter Tryz.func150, Tryz.ntmps150
  go_wp2
  go_loop [3, 8] (fun a i => ∃ k : Nat, k ≤ 4 ∧ i = .int .i64 k ∧ a = .int .u32 (numB (l.take k))) (fun _ i => 4 - (intOf i).toNat)
  case atStart => exact ⟨0, Nat.zero_le _, rfl, rfl⟩
  case round =>
    obtain ⟨k, hk, rfl, rfl⟩ := hrel
    by_cases hlt : k < 4
    · obtain ⟨b, off, rfl, hb, hc⟩ := hx.at_ (by omega)
      have hcell := hc k hlt
      have hs := Lib.hid (numB_snoc l k (by rw [HL.out]; exact hlt))
      have hbd := numB_bd l HB.out k (by rw [HL.out]; exact hk)
      have hx2 := HB.out (l.getD k 0) (by rw [getD_at l k (by rw [HL.out]; exact hlt)]; exact List.getElem_mem _)
      have hp := pow256 k hlt
      obtain ⟨x, hx1⟩ : ∃ x, x = l.getD k 0 := ⟨_, rfl⟩
      obtain ⟨v, hv⟩ : ∃ v, v = numB (l.take k) := ⟨_, rfl⟩
      rw [← hx1] at hcell hs hx2
      rw [← hv] at hs hbd ⊢
      clear hx1 hv hc
      obtain ⟨h0, h1⟩ := hbd
      have h1' : v < 16777216 := by omega
      clear h1 hp
      obtain ⟨hx20, hx21⟩ := hx2
      have hor := or_low32 v x h0 h1' hx20 hx21
      go_wp2
      go_round
      case rel => exact ⟨k + 1, by omega, by go_num, by rw [hs.out]⟩
      case measure => simp [intOf]; omega
    · go_wp2
      go_ret
      exact ⟨ret_int (by rw [List.take_of_length_le (by rw [HL.out]; omega)]), rfl⟩
end Go.Proofs.YtkejpkcaojidaaaGreatDoor

namespace Go.Proofs.YtkejpkcaojidaaaGreatDoor
open Go.RowKit Crc

/-- A number's four bytes, the greatest first. -/
def four (v : Int) : List Int := [v / 16777216, v / 65536 % 256, v / 256 % 256, v % 256]
def sumI (l : List Int) : Int := iv (crc (bitsL l))
def putL (l : List Int) : List Int := l ++ four (sumI l)
theorem putL_length (l : List Int) : (putL l).length = l.length + 4 := by simp [putL, four]
theorem flat_length (ps : List (List Int)) (hb : ∀ l ∈ ps, l.length ≤ 65536) : ps.flatten.length ≤ 65536 * ps.length := by
  induction ps with
  | nil => simp
  | cons p ps ih =>
    have h1 := hb p (by simp)
    have h2 := ih fun l hl => hb l (by simp [hl])
    simp only [List.flatten_cons, List.length_append, List.length_cons]
    omega
theorem flat_take (ps : List (List Int)) (i : Nat) : (ps.take i).flatten.length ≤ ps.flatten.length := by
  have : ps.flatten = (ps.take i).flatten ++ (ps.drop i).flatten := by rw [← List.flatten_append, List.take_append_drop]
  rw [this, List.length_append]
  omega
theorem Parts.size {w : World} {A : Option Addr} {n : Nat} {ps : List (List Int)} (h : Parts w A n ps) : ps.flatten.length ≤ 524288 := by
  have h1 := flat_length ps (fun l hl => by
    obtain ⟨i, hi, rfl⟩ := List.getElem_of_mem hl
    obtain ⟨_, _, _, _, B, m, c, _, hl, hm⟩ := h.at_ i (by rw [← h.len]; exact hi)
    have := hl.len
    simp [List.getD, hi] at this
    omega)
  have := h.len
  have := h.few
  omega

set_option maxRecDepth 100000 in
theorem sumPut_any (A : Option Addr) (n c : Nat) (ps : List (List Int)) (w : World) (hp : Parts w A n ps) :
    Calls Tryz.prog 136 #[.slice A n c] w fun e w' => ∃ g, e = .returned (.slice (some ⟨g, 0, none⟩) (ps.flatten.length + 4) (ps.flatten.length + 4)) ∧ w.heap.size ≤ g ∧ Blk w' g 5 (cellsOf .u8 (putL ps.flatten)) ∧ Below w.heap.size w w' := by
  obtain ⟨i0, hi0, hz0, hz1, hz2⟩ := info_parts infoBytes
  have HP := Lib.hid hp
  have hfew := hp.few
  have HL := Lib.hid hp.len
  have hsz := hp.size
  have HFT := Lib.hid (flat_take ps)
  have HSN := Lib.hid (parts_snoc ps)
  have HOF := Lib.hid (fun W (h : Parts W A n ps) => sumOf_any A n c ps W h)
  have HPL := Lib.hid (show putL ps.flatten = ps.flatten ++ four (iv (crc (bitsL ps.flatten))) from rfl)
  have h0 := iv_lo (crc (bitsL ps.flatten))
  have h1 := iv_hi (crc (bitsL ps.flatten))
  obtain ⟨v, hv⟩ : ∃ v, v = iv (crc (bitsL ps.flatten)) := ⟨_, rfl⟩
  rw [← hv] at h0 h1 HPL HOF
  clear hv hp
  obtain ⟨M, hM⟩ : ∃ M, M = ps.flatten.length := ⟨_, rfl⟩
  rw [← hM] at hsz HFT ⊢
  have HM := Lib.hid hM
  clear hM
  go_enter Tryz.func136, Tryz.ntmps136
  go_wp2_with fail
  go_loop [3, 12] (fun a iv' => ∃ i : Nat, i ≤ n ∧ iv' = .int .i64 i ∧ a = .int .i64 ((4 + (ps.take i).flatten.length : Nat) : Int)) (fun _ iv' => n - (intOf iv').toNat)
  case atStart => exact ⟨0, Nat.zero_le _, rfl, rfl⟩
  case round =>
    obtain ⟨i, hi, rfl, rfl⟩ := hrel
    have hle := HFT.out i
    by_cases hlt : i < n
    · have hlti : (i : Int) < (n : Int) := by omega
      obtain ⟨b, off, rfl, hbl, B, m, cc, hcp, hlp, hm⟩ := HP.out.at_ i hlt
      have hS := HSN.out i (by rw [HL.out]; exact hlt)
      have hS' := congrArg List.length hS
      rw [List.length_append, hlp.len] at hS'
      obtain ⟨q, hq⟩ : ∃ q, q = (ps.take i).flatten.length := ⟨_, rfl⟩
      rw [← hq] at hS' hle ⊢
      have HS := Lib.hid hS'
      clear hS hS' hq hlp
      go_wp2_with fail
      go_round
      case rel => exact ⟨i + 1, by omega, by go_num, congrArg (Value.int .i64) (by rw [HS.out]; omega)⟩
      case measure => simp [intOf]; omega
    · have hlti : (n : Int) ≤ (i : Int) := by omega
      rw [List.take_of_length_le (by rw [HL.out]; omega), ← HM.out]
      clear hle
      go_wp2_with (first
        | (at_make; with_reducible refine wpList_make_own _ rfl (.const (.int .i64 0)) (.tmp 21) 68 rfl w.heap.size 5 i0 _ 1 Tryz.underlying68 hi0 hz0 hz1 .i64 .i64 _ (4 + M) rfl rfl rfl (by rw [hz2]; omega) (by unfold maxLen; omega) (Nat.le_refl _) ?_))
      intro w1 hown hg
      have hb := (Below.refl w.heap.size w).grown hg (Nat.le_refl _) (by simp)
      clear hg
      go_wp2_with fail
      go_loopw [6, 25] (fun a iv' wr => ∃ i : Nat, i ≤ n ∧ iv' = .int .i64 i ∧ a = .slice (some ⟨w.heap.size, 0, none⟩) (ps.take i).flatten.length (4 + M) ∧ wr.ownsRow w.heap.size 5 1 (.slice (some ⟨w.heap.size, 0, none⟩) (ps.take i).flatten.length (4 + M)) (ps.take i).flatten.length ((ps.take i).flatten.map (Value.int .u8)) ∧ Below w.heap.size w wr) (fun _ iv' _ => n - (intOf iv').toNat)
      case atStart => exact ⟨0, Nat.zero_le _, rfl, rfl, hown, hb⟩
      case round =>
        clear hown hb hlti hlt hi
        obtain ⟨i, hi, rfl, rfl, hown, hb⟩ := hrel
        have hle := HFT.out i
        by_cases hlt : i < n
        · have hlti : (i : Int) < (n : Int) := by omega
          obtain ⟨b, off, rfl, hbl, B, m, cc, hcp, hlp, hm⟩ := (HP.out.on hb).at_ i hlt
          have HS := Lib.hid (HSN.out i (by rw [HL.out]; exact hlt))
          have hS' := congrArg List.length HS.out
          have hle' := HFT.out (i + 1)
          rw [List.length_append, hlp.len] at hS'
          obtain ⟨L, hL⟩ : ∃ L, L = (ps.take i).flatten := ⟨_, rfl⟩
          obtain ⟨l, hl⟩ : ∃ l, l = ps.getD i [] := ⟨_, rfl⟩
          rw [← hl] at HS hlp
          clear hl
          rw [← hL] at hS' hle HS hown ⊢
          have hroom : L.length + m ≤ 4 + M := by omega
          have HS' := Lib.hid hS'
          clear hS' hle'
          obtain ⟨K, hK⟩ : ∃ K, K = L.length := ⟨_, rfl⟩
          rw [← hK] at hown hroom hle HS' ⊢
          clear hL hK
          go_wp2_with (first
            | (at_builtin; with_reducible refine wpList_append_room rfl (.tmp 29) (.tmp 30) 68 rfl w.heap.size 5 i0 Tryz.underlying68 hi0 hz1 .u8 w.heap.size K (4 + M) L rfl hown B m cc _ rfl hlp (K + m) rfl hroom ?_))
          intro w2 hown2 hg2
          have hb2 := hb.grown hg2 hb.size (fun g hg => by cases hg; exact Nat.le_refl _)
          clear hown hg2 hlp hcp hb
          go_wp2_with fail
          go_roundw
          case rel => exact ⟨i + 1, by omega, by go_num, by rw [HS'.out], by rw [HS'.out, HS.out, List.map_append]; exact hown2, hb2⟩
          case measure => simp [intOf]; omega
        · have hlti : (n : Int) ≤ (i : Int) := by omega
          rw [List.take_of_length_le (by rw [HL.out]; omega), ← HM.out] at hown ⊢
          obtain ⟨F, hF⟩ : ∃ F, F = ps.flatten := ⟨_, rfl⟩
          rw [← hF] at hown
          have HF := Lib.hid hF
          clear hle hF
          go_wp2_with fail
          with_reducible refine (HOF.out _ (HP.out.on hb)).mono ?_
          rintro e w3 ⟨rfl, hb3⟩
          have hown3 := owns_kept hown (KeptBut.below hb3 []) (by simp)
          have hb3' := below_then hb hb3
          clear hb hown hb3
          have hl4 := Lies.new w3 5 .u8 (four v) 4 rfl #[.int .u8 (v / 16777216), .int .u8 (v / 65536 % 256), .int .u8 (v / 256 % 256), .int .u8 (v % 256)] rfl
          have hown4 := hown3.alloc (.cells #[.int .u8 (v / 16777216), .int .u8 (v / 65536 % 256), .int .u8 (v / 256 % 256), .int .u8 (v % 256)] 5)
          go_wp2_with (first
            | (at_builtin; with_reducible refine wpList_append_room rfl (.tmp 35) (.tmp 47) 68 rfl w.heap.size 5 i0 Tryz.underlying68 hi0 hz1 .u8 w.heap.size M (4 + M) F rfl hown4 (some ⟨w3.heap.size, 0, none⟩) 4 4 (four v) rfl hl4 (M + 4) rfl (by omega) ?_))
          intro w5 hown5 hg5
          have hb5 := (below_al hb3' (.cells #[.int .u8 (v / 16777216), .int .u8 (v / 65536 % 256), .int .u8 (v / 256 % 256), .int .u8 (v % 256)] 5)).grown hg5 (Nat.le_trans hb3'.size (by simp)) (fun g hg => by cases hg; exact Nat.le_refl _)
          rw [Nat.add_comm 4 M] at hown5 ⊢
          obtain ⟨hB, hge, _⟩ := owns_full (xs := F ++ four v) (by rw [List.map_append]; exact hown5)
          clear hown3 hown4 hown5 hg5 hl4
          go_wp2_with fail
          go_ret
          exact ⟨w.heap.size, rfl, Nat.le_refl _, by rw [HPL.out, ← HF.out]; exact hB, hb5⟩
end Go.Proofs.YtkejpkcaojidaaaGreatDoor

namespace Go.Proofs.YtkejpkcaojidaaaGreatDoor
open Go.RowKit Crc

/-- Are these summed bytes? -/
def checkB (l : List Int) : Bool := decide (4 ≤ l.length) && sumI (l.take (l.length - 4)) == numB (l.drop (l.length - 4))
theorem parts1 {w : World} {A : Option Addr} {n c : Nat} {l : List Int} (hx : Lies .u8 w w.heap.size A n l) (hb : ∀ x ∈ l, 0 ≤ x ∧ x ≤ 255) (hn : n ≤ 65536) :
    Parts (w.alloc (.cells #[.slice A n c] 68)) (some ⟨w.heap.size, 0, none⟩) 1 [l] :=
  ⟨rfl, by omega, fun i hi => by
    obtain rfl : i = 0 := by omega
    exact ⟨w.heap.size, 0, rfl, by simp, A, n, c, by simp [(Blk.new w 68 #[.slice A n c]).cell 0], hx.al _, hn⟩, fun l' h x hx' => by
    obtain rfl : l' = l := by simpa using h
    exact hb x hx'⟩

set_option maxRecDepth 100000 in
theorem check_short (A : Option Addr) (n c : Nat) (w : World) (h4 : n < 4) :
    Calls Tryz.prog 148 #[.slice A n c] w fun e w' => e = .returned (.tuple #[.slice none 0 0, .bool false]) ∧ w = w' := by
  go_enter Tryz.func148, Tryz.ntmps148
  go_wp2_with fail
  go_ret2
  exact ⟨rfl, rfl⟩

set_option maxRecDepth 100000 in
theorem check_long (A : Option Addr) (n c : Nat) (l : List Int) (w : World) (hx : Lies .u8 w w.heap.size A n l) (hb : ∀ x ∈ l, 0 ≤ x ∧ x ≤ 255) (hn : n ≤ 65536) (hcap : n ≤ c) (h4 : 4 ≤ n) :
    Calls Tryz.prog 148 #[.slice A n c] w fun e w' => (checkB l = false ∧ e = .returned (.tuple #[.slice none 0 0, .bool false]) ∧ Below w.heap.size w w') ∨
      (checkB l = true ∧ ∃ g, e = .returned (.tuple #[.slice (some ⟨g, 0, none⟩) (n - 4) (n - 4), .bool true]) ∧ w.heap.size ≤ g ∧ Blk w' g 5 (cellsOf .u8 (l.take (n - 4))) ∧ Below w.heap.size w w') := by
  have hl := hx.len
  have hchk : checkB l = (sumI (l.take (n - 4)) == numB (l.drop (n - 4))) := by rw [checkB, hl, decide_eq_true h4, Bool.true_and]
  have h1 : Lies .u8 w w.heap.size A (n - 4) (l.take (n - 4)) := hx.head (by omega)
  have h2 : Lies .u8 w w.heap.size (cutA A c (n - 4)) 4 (l.drop (n - 4)) := by
    have := hx.tail (c := c) (l := n - 4) (by omega) hcap
    rw [show n - (n - 4) = 4 by omega] at this
    exact this
  have hb1 : ∀ x ∈ l.take (n - 4), 0 ≤ x ∧ x ≤ 255 := fun x h => hb x (List.mem_of_mem_take h)
  have hb2 : ∀ x ∈ l.drop (n - 4), 0 ≤ x ∧ x ≤ 255 := fun x h => hb x (List.mem_of_mem_drop h)
  have HOF := Lib.hid (fun W (h : Parts W (some ⟨w.heap.size, 0, none⟩) 1 [l.take (n - 4)]) => sumOf_any (some ⟨w.heap.size, 0, none⟩) 1 1 [l.take (n - 4)] W h)
  have HPA : Hid (Parts (w.alloc (.cells #[.slice A (n - 4) c] 68)).drew (some ⟨w.heap.size, 0, none⟩) 1 [l.take (n - 4)]) := Lib.hid (parts1 (w := w.drew) (c := c) h1 hb1 (by omega))
  have HNU := Lib.hid (fun u hu => number_any (cutA A c (n - 4)) (c - (n - 4)) _ u hu hb2)
  have hs1 := fun W => uptoBytes A n c ((n : Int) - 4) (by omega) (by omega) W
  have hs2 := fun W => fromBytes A n c ((n : Int) - 4) (by omega) (by omega) W
  rw [show ((n : Int) - 4).toNat = n - 4 by omega] at hs1 hs2
  rw [show n - (n - 4) = 4 by omega] at hs2
  obtain ⟨va, hva⟩ : ∃ va, va = sumI (l.take (n - 4)) := ⟨_, rfl⟩
  obtain ⟨vb, hvb⟩ : ∃ vb, vb = numB (l.drop (n - 4)) := ⟨_, rfl⟩
  have hfl : [l.take (n - 4)].flatten = l.take (n - 4) := by simp
  rw [hfl, ← sumI, ← hva] at HOF
  rw [← hvb] at HNU
  rw [← hva, ← hvb] at hchk
  have HCHK := Lib.hid hchk
  clear hva hvb hfl hchk hb1 hb2
  have HL := Lib.hid hl
  have HB := Lib.hid hb
  clear hl hb
  go_enter Tryz.func148, Tryz.ntmps148
  go_wp2_with fail
  go_cut [21] from 12 to 21 (fun s21 wx => s21 = .bool (va != vb) ∧ Below w.heap.size w wx)
  case first =>
    go_region_held3 (fun w' => Below w.heap.size w w')
      (first
        | exact (Below.refl _ _).drew
        | exact (below_al (Below.refl _ _) _).drew
        | exact below_then ‹Below w.heap.size w _› hb9
        | assumption)
      (first
        | (go_at_call 142; with_reducible refine (HOF.out _ HPA.out).mono ?_; rintro e w9 ⟨rfl, hb9⟩)
        | (go_at_call 150; with_reducible refine (HNU.out _ (h2.on (by assumption))).mono ?_; rintro e w9 ⟨rfl, rfl⟩))
    all_goals go_wp2_with fail
    all_goals go_meet
    all_goals exact ⟨rfl, by first | assumption | exact below_then ‹Below w.heap.size w _› hb9⟩
  case rest =>
    obtain ⟨rfl, hb9⟩ := hcut
    clear hs1 hs2 h1 h2 HPA HOF HNU
    by_cases hv : va = vb
    · have hne : (va != vb) = false := by simp [hv]
      have HK := Lib.hid (show checkB l = true by rw [HCHK.out]; simp [hv])
      clear hv HCHK
      have hmk := fun u => makeBytes ((n : Int) - 4) (by omega) (by omega) u
      rw [show ((n : Int) - 4).toNat = n - 4 by omega] at hmk
      have hx9 := hx.on hb9
      obtain ⟨cs, hcs⟩ : ∃ cs, cs = (l.take (n - 4)).map (Value.int .u8) := ⟨_, rfl⟩
      have HCS := Lib.hid hcs
      have HCL := Lib.hid (show cs.length = n - 4 by rw [hcs, List.length_map, List.length_take, HL.out]; omega)
      clear hcs hx
      go_wp2_with (with_reducible refine wpList_copy_splice rfl (.tmp 24) (.tmp 25) 68 68 rfl 5 Tryz.underlying68 szBytes (some ⟨wc.heap.size, 0, none⟩) A (n - 4) (n - 4) n c rfl rfl wc.heap.size 0 (madeCells #[.int .u8 0] (n - 4)).toList 5 ?h1 cs ?h2 ?h3 ?h4 ?h5 w.heap.size w ?h6 ?h7 ?_)
      case h1 => rw [Array.toArray_toList]; exact Blk.new _ _ _
      case h2 => rw [HCL.out]; exact (Nat.min_eq_right (by omega)).symm
      case h3 => rw [HCS.out]; intro h0; exact ((hx9.al _).head (h := n - 4) (by omega)).src h0
      case h4 => rw [HCL.out, Array.length_toList, made_size]; omega
      case h5 => rw [HCS.out]; exact ints_oneCell _ _
      case h6 => exact below_al hb9 _
      case h7 => exact hb9.size
      intro w2 hrow hb2
      have hblk : Blk w2 wc.heap.size 5 (cellsOf .u8 (l.take (n - 4))) := by
        have h := hrow.out
        rw [splice_whole _ _ (by rw [HCL.out, Array.length_toList, made_size]), HCS.out] at h
        exact h
      clear hrow hmk HCS hx9
      go_wp2_with fail
      go_ret2
      exact .inr ⟨HK.out, _, rfl, hb9.size, hblk, hb2⟩
    · have hne : (va != vb) = true := by simp [hv]
      have HK := Lib.hid (show checkB l = false by rw [HCHK.out]; simp [hv])
      clear hv HCHK
      go_wp2_with fail
      go_ret2
      exact .inl ⟨HK.out, rfl, hb9⟩
end Go.Proofs.YtkejpkcaojidaaaGreatDoor

