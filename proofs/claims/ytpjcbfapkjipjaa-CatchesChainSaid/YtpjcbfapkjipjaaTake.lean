/-
  The contract of the register's take: it takes a byte's bits, the greatest one first; nothing else turns. Conditions: what the register holds, a byte.
-/
import Derived.Test.YtpjcbfapkjipjaaCrcRef
import Derived.Test.YtpjcbfapkjipjaaLst
import Derived.Laws.BitsAllLaws
namespace Go.Proofs.Ytpjcbfapkjipjaa
open Go.RowKit

namespace Crc
def iv (r : BitVec 32) : Int := (r.toNat : Int)
theorem iv_lo (r : BitVec 32) : 0 ≤ iv r := Int.natCast_nonneg _
theorem iv_hi (r : BitVec 32) : iv r < 4294967296 := by have := r.isLt; unfold iv; omega
theorem iv_inj {a b : BitVec 32} (h : iv a = iv b) : a = b := BitVec.eq_of_toNat_eq (by unfold iv at h; omega)
theorem iv_xor (a b : BitVec 32) : bits .xor .u32 (iv a) (iv b) = iv (a ^^^ b) := by
  have ha := a.isLt
  have hb := b.isLt
  unfold iv
  rw [u32_xor_nat _ _ ha hb, BitVec.toNat_xor]
def Zi : Nat → BitVec 32 → BitVec 32
  | 0, r => r
  | n + 1, r => Z (Zi n r)
theorem Zn_Z (n : Nat) : ∀ r, Zn n (Z r) = Z (Zn n r) := by
  induction n with
  | zero => intro r; rfl
  | succ n ih => intro r; show Zn n (Z (Z r)) = Z (Zn n (Z r)); rw [ih]
theorem Zi_Zn (n : Nat) (r : BitVec 32) : Zi n r = Zn n r := by
  induction n with
  | zero => rfl
  | succ n ih => show Z (Zi n r) = Zn n (Z r); rw [ih, Zn_Z]
/-- A byte's bits, the greatest first. -/
def bits8 (x : Int) : List Bool := (List.range 8).map fun i => x.toNat.testBit (7 - i)
theorem bits8_length (x : Int) : (bits8 x).length = 8 := by simp [bits8]
theorem left_bits8 (x : Int) (h0 : 0 ≤ x) (h1 : x ≤ 255) : iv (left (bits8 x)) = x * 16777216 := by
  have e : left (bits8 x) = BitVec.ofNat 32 (x.toNat <<< 24) := by
    apply BitVec.eq_of_getLsbD_eq
    intro i hi
    rw [left_get _ _ (by rw [bits8_length]; omega) hi, BitVec.getLsbD_ofNat, Nat.testBit_shiftLeft, bits8, decide_eq_true hi, Bool.true_and]
    rcases Nat.lt_or_ge i 24 with h | h
    · rw [decide_eq_false (by omega), Bool.false_and]
      simp [List.getD, show ¬ 31 - i < 8 by omega]
    · rw [decide_eq_true (by omega), Bool.true_and]
      simp [List.getD, show 31 - i < 8 by omega, show 7 - (31 - i) = i - 24 by omega]
  rw [e, iv, BitVec.toNat_ofNat, Nat.shiftLeft_eq, Nat.mod_eq_of_lt (by omega)]
  omega
theorem feed_byte (r : BitVec 32) (x : Int) : feed r (bits8 x) = Zi 8 (r ^^^ left (bits8 x)) := by
  rw [Zi_Zn, feed_left _ _ (by rw [bits8_length]; omega), bits8_length]
theorem msb_iv (r : BitVec 32) : r.msb = decide (2147483648 ≤ iv r) := by
  rw [BitVec.msb_eq_decide]
  have e : (2 : Nat) ^ (32 - 1) = 2147483648 := by decide
  rw [e]
  unfold iv
  congr 1
  rw [eq_iff_iff]
  omega
theorem and_top (r : BitVec 32) : bits .and .u32 (iv r) 2147483648 = if r.msb then 2147483648 else 0 := by
  have ha := r.isLt
  have h := u32_and_nat r.toNat 2147483648 ha (by decide)
  have e : r.toNat &&& 2147483648 = if r.msb then 2147483648 else 0 := by
    have : (r &&& 0x80000000#32).toNat = (if r.msb then 0x80000000#32 else 0#32).toNat := by
      congr 1
      apply BitVec.eq_of_getLsbD_eq
      intro i hi
      rcases Nat.lt_or_ge i 31 with h | h
      · have h31 : ∀ k : Fin 31, (0x80000000#32).getLsbD k.val = false := by decide
        have h31' : (0x80000000#32).getLsbD i = false := h31 ⟨i, h⟩
        rw [BitVec.getLsbD_and, h31', Bool.and_false]
        split
        · exact h31'.symm
        · simp
      · obtain rfl : i = 31 := by omega
        rw [BitVec.getLsbD_and, ← show r.msb = r.getLsbD 31 from BitVec.msb_eq_getLsbD_last r]
        cases r.msb <;> decide
    rw [BitVec.toNat_and] at this
    rw [show (2147483648 : Nat) = (0x80000000#32).toNat by decide, this]
    split <;> rfl
  unfold iv
  rw [show ((2147483648 : Int)) = ((2147483648 : Nat) : Int) by rfl, h, e]
  split <;> rfl
theorem iv_shl (r : BitVec 32) : iv (r <<< 1) = iv r * 2 % 4294967296 := by
  unfold iv
  rw [BitVec.toNat_shiftLeft, Nat.shiftLeft_eq]
  omega
theorem iv_P : iv P = 79764919 := by decide
end Crc
open Crc

set_option maxRecDepth 100000 in
theorem take_any (g : Nat) (r : BitVec 32) (x : Int) (w : World) (hB : Blk w g 109 #[.int .u32 (iv r)]) (hx0 : 0 ≤ x) (hx1 : x ≤ 255) :
    Calls Try.prog 63 #[.pointer (some ⟨g, 0, none⟩), .int .u8 x] w fun e w' => e = .returned (.tuple #[]) ∧ w' = w.setCell ⟨g, 0, none⟩ (.int .u32 (iv (feed r (bits8 x)))) := by
  have hc := hB.cell 0
  have hf := hB.frozen 0
  simp at hc
  have h0 := iv_lo r
  have h1 := iv_hi r
  have hF := Lib.hid (feed_byte r x)
  have hX := iv_xor r (left (bits8 x))
  rw [left_bits8 x hx0 hx1] at hX
  obtain ⟨l, hl⟩ : ∃ l, l = r ^^^ left (bits8 x) := ⟨_, rfl⟩
  rw [← hl] at hX hF
  clear hl
  obtain ⟨v, hv⟩ : ∃ v, v = iv r := ⟨_, rfl⟩
  rw [← hv] at h0 h1 hX hc
  clear hv
  go_enter Try.func63, Try.ntmps63
  go_wp2
  clear hX
  go_loop [4, 13] (fun a i => ∃ k : Nat, k ≤ 8 ∧ i = .int .i64 k ∧ a = .int .u32 (iv (Zi k l))) (fun _ i => 8 - (intOf i).toNat)
  case atStart => exact ⟨0, by omega, rfl, rfl⟩
  case round =>
    obtain ⟨k, hk, rfl, rfl⟩ := hrel
    by_cases hlt : k < 8
    · have ht := and_top (Zi k l)
      have hm := msb_iv (Zi k l)
      have hs := iv_shl (Zi k l)
      have hZ := Lib.hid (show Zi (k + 1) l = Z (Zi k l) from rfl)
      unfold Z at hZ
      have hy0 := iv_lo (Zi k l)
      have hy1 := iv_hi (Zi k l)
      have hx' := iv_xor (Zi k l <<< 1) P
      rw [iv_P] at hx'
      obtain ⟨q, hq⟩ : ∃ q, q = Zi k l := ⟨_, rfl⟩
      rw [← hq] at ht hm hs hZ hy0 hy1 hx' ⊢
      clear hq
      rw [hs] at hx'
      obtain ⟨y, hy⟩ : ∃ y, y = iv q := ⟨_, rfl⟩
      obtain ⟨z, hz⟩ : ∃ z, z = iv (q <<< 1) := ⟨_, rfl⟩
      obtain ⟨t, ht'⟩ : ∃ t, t = iv (q <<< 1 ^^^ P) := ⟨_, rfl⟩
      rw [← hy] at ht hm hs hy0 hy1 hx' ⊢
      rw [← ht'] at hx'
      have hzy : y * 2 % 4294967296 = z := by rw [hz, hs]
      clear hs
      have HZ := Lib.hid hz
      have HT := Lib.hid ht'
      clear hz ht' hy
      cases hb : q.msb
      · rw [hb] at ht hm hZ
        simp at ht hm hZ
        have hzy' := Lib.hid hzy
        clear hzy hx' hb hB
        go_wp2
        go_round
        case rel => exact ⟨k + 1, by omega, by go_num, congrArg (Value.int .u32) (by rw [hZ.out, ← HZ.out, ← hzy'.out]; omega)⟩
        case measure => simp [intOf]; omega
      · rw [hb] at ht hm hZ
        simp at ht hm hZ
        clear hb hB
        go_wp2
        go_round
        case rel => exact ⟨k + 1, by omega, by go_num, congrArg (Value.int .u32) (by rw [hZ.out, ← HT.out, ← hx', hzy])⟩
        case measure => simp [intOf]; omega
    · have hk8 : k = 8 := by omega
      subst hk8
      go_wp2
      go_end0
      exact ⟨rfl, by rw [hF.out]⟩
end Go.Proofs.Ytpjcbfapkjipjaa
