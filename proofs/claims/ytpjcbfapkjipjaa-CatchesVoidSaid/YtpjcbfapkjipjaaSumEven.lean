/-
  The walk of the law SumsEven: it returns true, and nothing that was there has turned. Conditions: the slices' readings, bytes, lengths within the capacities.
-/
import Derived.Test.YtpjcbfapkjipjaaSumLives
import Derived.Test.YtpjcbfapkjipjaaReg
import Derived.Deep.RegionHeld3
namespace Go.Proofs.Ytpjcbfapkjipjaa
open Go.RowKit Crc

def xorI (x y : Int) : Int := ((x.toNat ^^^ y.toNat : Nat) : Int)
def xorL (a b : List Int) : List Int := List.zipWith xorI a b
theorem xorL_length (a b : List Int) : (xorL a b).length = min a.length b.length := by simp [xorL]
theorem xorL_at (a b : List Int) (k : Nat) (h1 : k < a.length) (h2 : k < b.length) : (xorL a b).getD k 0 = xorI (a.getD k 0) (b.getD k 0) := by
  rw [xorL, List.getD, List.getElem?_zipWith]
  simp [List.getD, h1, h2]
theorem xorI_bd (x y : Int) (h0 : 0 ≤ x) (h1 : x ≤ 255) (h2 : 0 ≤ y) (h3 : y ≤ 255) : 0 ≤ xorI x y ∧ xorI x y ≤ 255 := by
  have : x.toNat ^^^ y.toNat < 2 ^ 8 := Nat.xor_lt_two_pow (by omega) (by omega)
  unfold xorI
  omega
theorem xorL_bd (a b : List Int) (ha : ∀ x ∈ a, 0 ≤ x ∧ x ≤ 255) (hb : ∀ x ∈ b, 0 ≤ x ∧ x ≤ 255) : ∀ x ∈ xorL a b, 0 ≤ x ∧ x ≤ 255 := by
  intro x hx
  obtain ⟨k, hk, rfl⟩ := List.getElem_of_mem hx
  have hl := xorL_length a b
  have h := xorL_at a b k (by omega) (by omega)
  rw [getD_at _ _ hk] at h
  rw [h, getD_at a k (by omega), getD_at b k (by omega)]
  have h1 := ha _ (List.getElem_mem (by omega : k < a.length))
  have h2 := hb _ (List.getElem_mem (by omega : k < b.length))
  exact xorI_bd _ _ h1.1 h1.2 h2.1 h2.2
theorem bits8_xor (x y : Int) : bits8 (xorI x y) = List.zipWith (· != ·) (bits8 x) (bits8 y) := by
  simp [bits8, xorI, List.range, List.range.loop, Nat.testBit_xor]
theorem bitsL_length (l : List Int) : (bitsL l).length = 8 * l.length := by
  induction l with
  | nil => rfl
  | cons x l ih => rw [bitsL, List.flatMap_cons, List.length_append, bits8_length, ← bitsL, ih, List.length_cons]; omega
theorem bitsL_xor : ∀ (a b : List Int), a.length = b.length → bitsL (xorL a b) = List.zipWith (· != ·) (bitsL a) (bitsL b) := by
  intro a
  induction a with
  | nil => intro b h; cases b with
    | nil => rfl
    | cons => simp at h
  | cons x a ih => intro b h; cases b with
    | nil => simp at h
    | cons y b =>
      show bits8 (xorI x y) ++ bitsL (xorL a b) = List.zipWith _ (bits8 x ++ bitsL a) (bits8 y ++ bitsL b)
      rw [List.zipWith_append (by rw [bits8_length, bits8_length]), ih b (by simpa using h), bits8_xor]
theorem bitsL_zero (n : Nat) : bitsL (List.replicate n 0) = List.replicate (8 * n) false := by
  induction n with
  | zero => rfl
  | succ n ih =>
    rw [List.replicate_succ]
    show bits8 0 ++ bitsL (List.replicate n 0) = _
    rw [ih, show bits8 0 = List.replicate 8 false by decide, List.replicate_append_replicate]
    congr 1
    omega
theorem xorL_take (a b : List Int) (N : Nat) (h : N = min a.length b.length) : xorL (a.take N) (b.take N) = xorL a b := by
  unfold xorL
  rw [← List.take_zipWith, List.take_of_length_le (by simp; omega)]
theorem sum_even (a b : List Int) (N : Nat) {n m : Nat} (_ : ∀ x ∈ a, 0 ≤ x ∧ x ≤ 255) (_ : ∀ x ∈ b, 0 ≤ x ∧ x ≤ 255) (hn : a.length = n) (hm : b.length = m) (hN : N = min n m) :
    sumI (xorL a b) = bits .xor .u32 (bits .xor .u32 (sumI (a.take N)) (sumI (b.take N))) (sumI (List.replicate N 0)) := by
  have hN' : N = min a.length b.length := by rw [hN, hn, hm]
  have hl1 : (a.take N).length = N := by rw [List.length_take]; omega
  have hl2 : (b.take N).length = N := by rw [List.length_take]; omega
  rw [← xorL_take a b N hN']
  unfold sumI
  rw [bitsL_xor _ _ (by omega), crc_even _ _ (by rw [bitsL_length, bitsL_length]; omega), iv_xor, iv_xor, bitsL_zero, bitsL_length, hl1]
theorem sumOf_one (g : Nat) (l : List Int) (u : World) (h : Parts u (some ⟨g, 0, none⟩) 1 [l]) :
    Calls Try.prog 56 #[.slice (some ⟨g, 0, none⟩) 1 1] u fun e w' => e = .returned (.int .u32 (sumI l)) ∧ Below u.heap.size u w' := by
  have := sumOf_any (some ⟨g, 0, none⟩) 1 1 [l] u h
  rw [show [l].flatten = l by simp] at this
  exact this
def Reg.Fact.parts (l : List Int) : Reg.Fact := ⟨fun v w => ∃ g, v = .slice (some ⟨g, 0, none⟩) 1 1 ∧ Parts w (some ⟨g, 0, none⟩) 1 [l], fun _ _ _ hb h => by
  obtain ⟨g, e, hp⟩ := h
  exact ⟨g, e, hp.on hb⟩⟩

end Go.Proofs.Ytpjcbfapkjipjaa
