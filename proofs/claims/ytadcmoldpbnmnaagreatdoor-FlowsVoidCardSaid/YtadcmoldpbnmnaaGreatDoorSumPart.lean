/-
  The walk of the law SumsParts: it returns true, and nothing that was there has turned. Conditions: the slice's reading, bytes, a length within the capacity, two numbers.
-/
import Derived.Test.YtadcmoldpbnmnaaGreatDoorSumChk
import Derived.Test.YtadcmoldpbnmnaaGreatDoorSameB
import Derived.Lib.SlBytesConst
import Derived.Test.YtadcmoldpbnmnaaGreatDoorReg2
import Derived.Deep.RegionHeld3
namespace Go.Proofs.YtadcmoldpbnmnaaGreatDoor
open Go.RowKit Crc

theorem sumI_digits : sumI [49, 50, 51, 52, 53, 54, 55, 56, 57] = 4236843288 := by kernel_rfl
theorem sumI_nil : sumI [] = 0 := by kernel_rfl
theorem check_seven : checkB (putL [7]) = true := by kernel_rfl
theorem parts0 {w : World} : Parts w none 0 [] := ⟨rfl, by omega, fun i hi => absurd hi (Nat.not_lt_zero i), fun l h => by cases h⟩
theorem check_yes (A : Option Addr) (n c : Nat) (l : List Int) (w : World) (hx : Lies .u8 w w.heap.size A n l) (hb : ∀ x ∈ l, 0 ≤ x ∧ x ≤ 255) (hn : n ≤ 65536) (hcap : n ≤ c) (h : checkB l = true) :
    Calls Tryz.prog 149 #[.slice A n c] w fun e w' => ∃ g, e = .returned (.tuple #[.slice (some ⟨g, 0, none⟩) (n - 4) (n - 4), .bool true]) ∧ w.heap.size ≤ g ∧ Blk w' g 5 (cellsOf .u8 (l.take (n - 4))) ∧ Below w.heap.size w w' := by
  have h4 : 4 ≤ n := by rw [← hx.len]; simp [checkB] at h; exact h.1
  refine (check_long A n c l w hx hb hn hcap h4).mono fun e w' h1 => ?_
  rcases h1 with ⟨h2, _⟩ | ⟨_, h2⟩
  · rw [h] at h2; cases h2
  · exact h2
theorem check_no (A : Option Addr) (n c : Nat) (l : List Int) (w : World) (hx : Lies .u8 w w.heap.size A n l) (hb : ∀ x ∈ l, 0 ≤ x ∧ x ≤ 255) (hn : n ≤ 65536) (hcap : n ≤ c) (h : checkB l = false) :
    Calls Tryz.prog 149 #[.slice A n c] w fun e w' => e = .returned (.tuple #[.slice none 0 0, .bool false]) ∧ Below w.heap.size w w' := by
  rcases Nat.lt_or_ge n 4 with h4 | h4
  · refine (check_short A n c w h4).mono fun e w' h1 => ?_
    obtain ⟨h1, h2⟩ := h1
    subst h2
    exact ⟨h1, Below.refl _ _⟩
  · refine (check_long A n c l w hx hb hn hcap h4).mono fun e w' h1 => ?_
    rcases h1 with ⟨_, h2⟩ | ⟨h2, _⟩
    · exact h2
    · rw [h] at h2; cases h2
/-- One list, put. -/
theorem put1 (A : Option Addr) (n c : Nat) (l : List Int) (u : World) (hx : Lies .u8 u u.heap.size A n l) (hb : ∀ x ∈ l, 0 ≤ x ∧ x ≤ 255) (hn : n ≤ 65536) (N : Nat) (hN : n + 4 = N) (H : Nat) (hH : u.heap.size = H) :
    Calls Tryz.prog 137 #[.slice (some ⟨H, 0, none⟩) 1 1] (u.alloc (.cells #[.slice A n c] 77)) fun e w' => ∃ g, e = .returned (.slice (some ⟨g, 0, none⟩) N N) ∧ u.heap.size < g ∧ Blk w' g 5 (cellsOf .u8 (putL l)) ∧ Below u.heap.size u w' := by
  subst hH
  refine (sumPut_any _ 1 1 [l] _ (parts1 (c := c) hx hb hn)).mono fun e w' h => ?_
  obtain ⟨g, he, hg, hB, hb⟩ := h
  have hl := hx.len
  have hf : [l].flatten = l := by simp
  rw [hf] at he hB
  rw [hl, hN] at he
  exact ⟨g, he, by have : (u.alloc (.cells #[.slice A n c] 77)).heap.size = u.heap.size + 1 := alloc_size u _; omega, hB, (below_al (Below.refl _ _) _).trans (hb.mono (by simp))⟩
theorem of1 (A : Option Addr) (n c : Nat) (l : List Int) (u : World) (hx : Lies .u8 u u.heap.size A n l) (hb : ∀ x ∈ l, 0 ≤ x ∧ x ≤ 255) (hn : n ≤ 65536) (H : Nat) (hH : u.heap.size = H) :
    Calls Tryz.prog 143 #[.slice (some ⟨H, 0, none⟩) 1 1] (u.alloc (.cells #[.slice A n c] 77)) fun e w' => e = .returned (.int .u32 (sumI l)) ∧ Below u.heap.size u w' := by
  subst hH
  refine (sumOf_any _ 1 1 [l] _ (parts1 (c := c) hx hb hn)).mono fun e w' h => ?_
  obtain ⟨he, hb⟩ := h
  have hf : [l].flatten = l := by simp
  rw [hf] at he
  exact ⟨he, (below_al (Below.refl _ _) _).trans (hb.mono (by simp))⟩

end Go.Proofs.YtadcmoldpbnmnaaGreatDoor

namespace Go.Proofs.YtadcmoldpbnmnaaGreatDoor
open Go.RowKit Crc

def xorI (x y : Int) : Int := ((x.toNat ^^^ y.toNat : Nat) : Int)
def xorL (a b : List Int) : List Int := List.zipWith xorI a b
theorem xorL_length (a b : List Int) : (xorL a b).length = min a.length b.length := by simp [xorL]
theorem xorL_at (a b : List Int) (k : Nat) (h1 : k < a.length) (h2 : k < b.length) : (xorL a b).getD k 0 = xorI (a.getD k 0) (b.getD k 0) := by
  rw [xorL, List.getD, List.getElem?_zipWith]
  simp [List.getD, h1, h2]
theorem xorI_bd (x y : Int) (h0 : 0 ≤ x) (h1 : x ≤ 255) (h2 : 0 ≤ y) (h3 : y ≤ 255) : 0 ≤ xorI x y ∧ xorI x y ≤ 255 := by
  have : x.toNat ^^^ y.toNat < 2 ^ 8 := Nat.xor_lt_two_pow (by omega) (by omega)
  unfold xorI
  omega
theorem xorL_bd (a b : List Int) (ha : ∀ x ∈ a, 0 ≤ x ∧ x ≤ 255) (hb : ∀ x ∈ b, 0 ≤ x ∧ x ≤ 255) : ∀ x ∈ xorL a b, 0 ≤ x ∧ x ≤ 255 := by
  intro x hx
  obtain ⟨k, hk, rfl⟩ := List.getElem_of_mem hx
  have hl := xorL_length a b
  have h := xorL_at a b k (by omega) (by omega)
  rw [getD_at _ _ hk] at h
  rw [h, getD_at a k (by omega), getD_at b k (by omega)]
  have h1 := ha _ (List.getElem_mem (by omega : k < a.length))
  have h2 := hb _ (List.getElem_mem (by omega : k < b.length))
  exact xorI_bd _ _ h1.1 h1.2 h2.1 h2.2
theorem bits8_xor (x y : Int) : bits8 (xorI x y) = List.zipWith (· != ·) (bits8 x) (bits8 y) := by
  simp [bits8, xorI, List.range, List.range.loop, Nat.testBit_xor]
theorem bitsL_length (l : List Int) : (bitsL l).length = 8 * l.length := by
  induction l with
  | nil => rfl
  | cons x l ih => rw [bitsL, List.flatMap_cons, List.length_append, bits8_length, ← bitsL, ih, List.length_cons]; omega
theorem bitsL_xor : ∀ (a b : List Int), a.length = b.length → bitsL (xorL a b) = List.zipWith (· != ·) (bitsL a) (bitsL b) := by
  intro a
  induction a with
  | nil => intro b h; cases b with
    | nil => rfl
    | cons => simp at h
  | cons x a ih => intro b h; cases b with
    | nil => simp at h
    | cons y b =>
      show bits8 (xorI x y) ++ bitsL (xorL a b) = List.zipWith _ (bits8 x ++ bitsL a) (bits8 y ++ bitsL b)
      rw [List.zipWith_append (by rw [bits8_length, bits8_length]), ih b (by simpa using h), bits8_xor]
theorem bitsL_zero (n : Nat) : bitsL (List.replicate n 0) = List.replicate (8 * n) false := by
  induction n with
  | zero => rfl
  | succ n ih =>
    rw [List.replicate_succ]
    show bits8 0 ++ bitsL (List.replicate n 0) = _
    rw [ih, show bits8 0 = List.replicate 8 false by decide, List.replicate_append_replicate]
    congr 1
    omega
theorem xorL_take (a b : List Int) (N : Nat) (h : N = min a.length b.length) : xorL (a.take N) (b.take N) = xorL a b := by
  unfold xorL
  rw [← List.take_zipWith, List.take_of_length_le (by simp; omega)]
theorem sum_even (a b : List Int) (N : Nat) {n m : Nat} (_ : ∀ x ∈ a, 0 ≤ x ∧ x ≤ 255) (_ : ∀ x ∈ b, 0 ≤ x ∧ x ≤ 255) (hn : a.length = n) (hm : b.length = m) (hN : N = min n m) :
    sumI (xorL a b) = bits .xor .u32 (bits .xor .u32 (sumI (a.take N)) (sumI (b.take N))) (sumI (List.replicate N 0)) := by
  have hN' : N = min a.length b.length := by rw [hN, hn, hm]
  have hl1 : (a.take N).length = N := by rw [List.length_take]; omega
  have hl2 : (b.take N).length = N := by rw [List.length_take]; omega
  rw [← xorL_take a b N hN']
  unfold sumI
  rw [bitsL_xor _ _ (by omega), crc_even _ _ (by rw [bitsL_length, bitsL_length]; omega), iv_xor, iv_xor, bitsL_zero, bitsL_length, hl1]
theorem sumOf_one (g : Nat) (l : List Int) (u : World) (h : Parts u (some ⟨g, 0, none⟩) 1 [l]) :
    Calls Tryz.prog 143 #[.slice (some ⟨g, 0, none⟩) 1 1] u fun e w' => e = .returned (.int .u32 (sumI l)) ∧ Below u.heap.size u w' := by
  have := sumOf_any (some ⟨g, 0, none⟩) 1 1 [l] u h
  rw [show [l].flatten = l by simp] at this
  exact this
def Reg.Fact.parts (l : List Int) : Reg.Fact := ⟨fun v w => ∃ g, v = .slice (some ⟨g, 0, none⟩) 1 1 ∧ Parts w (some ⟨g, 0, none⟩) 1 [l], fun _ _ _ hb h => by
  obtain ⟨g, e, hp⟩ := h
  exact ⟨g, e, hp.on hb⟩⟩

end Go.Proofs.YtadcmoldpbnmnaaGreatDoor

namespace Go.Proofs.YtadcmoldpbnmnaaGreatDoor
open Go.RowKit Crc

def Reg.Fact.partsL (k : Nat) (ps : List (List Int)) : Reg.Fact := ⟨fun v w => ∃ g, v = .slice (some ⟨g, 0, none⟩) k k ∧ Parts w (some ⟨g, 0, none⟩) k ps, fun _ _ _ hb h => by
  obtain ⟨g, e, hp⟩ := h
  exact ⟨g, e, hp.on hb⟩⟩
/-- A row of lists, built. -/
theorem partsNew (u : World) (vs : List (Option Addr × Nat × Nat × List Int)) {k : Nat} (hk : vs.length = k) (hf : k ≤ 8) (h : ∀ p ∈ vs, Lies .u8 u u.heap.size p.1 p.2.1 p.2.2.2 ∧ p.2.1 ≤ 65536 ∧ ∀ x ∈ p.2.2.2, 0 ≤ x ∧ x ≤ 255) :
    Parts (u.alloc (.cells (vs.map fun p => Value.slice p.1 p.2.1 p.2.2.1).toArray 77)) (some ⟨u.heap.size, 0, none⟩) k (vs.map (·.2.2.2)) :=
  ⟨by simp [hk], hf, fun i hi => by
    have hi' : i < vs.length := by omega
    obtain ⟨h1, h2, _⟩ := h vs[i] (List.getElem_mem hi')
    refine ⟨u.heap.size, 0, rfl, by simp, vs[i].1, vs[i].2.1, vs[i].2.2.1, ?_, ?_, h2⟩
    · rw [Nat.zero_add, (Blk.new u 77 _).cell i]
      simp [hi']
    · have := h1.al (.cells (vs.map fun p => Value.slice p.1 p.2.1 p.2.2.1).toArray 77)
      simpa [List.getD, hi'] using this, fun l hl => by
    obtain ⟨p, hp, rfl⟩ := List.mem_map.1 hl
    exact (h p hp).2.2⟩

theorem parts_flat (b : List Int) (I J : Nat) (h : I ≤ J) : [b.take I, (b.drop I).take (J - I), [], b.drop J].flatten = b := by
  have h1 : b.drop J = (b.drop I).drop (J - I) := by rw [List.drop_drop]; congr 1; omega
  simp only [List.flatten_cons, List.flatten_nil, List.append_nil, List.nil_append]
  rw [h1, List.take_append_drop, List.take_append_drop]
theorem four_bd (v : Int) (h0 : 0 ≤ v) (h1 : v < 4294967296) : ∀ x ∈ four v, 0 ≤ x ∧ x ≤ 255 := by
  simp only [four, List.forall_mem_cons]
  exact ⟨by omega, by omega, by omega, by omega, fun _ h => by cases h⟩
theorem putL_bd (l : List Int) (h : ∀ x ∈ l, 0 ≤ x ∧ x ≤ 255) : ∀ x ∈ putL l, 0 ≤ x ∧ x ≤ 255 := by
  intro x hx
  rcases List.mem_append.1 hx with h1 | h1
  · exact h x h1
  · exact four_bd _ (iv_lo _) (iv_hi _) x h1
theorem sumOf_all (g k : Nat) (ps : List (List Int)) (u : World) (h : Parts u (some ⟨g, 0, none⟩) k ps) :
    Calls Tryz.prog 143 #[.slice (some ⟨g, 0, none⟩) k k] u fun e w' => e = .returned (.int .u32 (sumI ps.flatten)) ∧ Below u.heap.size u w' := sumOf_any _ k k ps u h
theorem sumPut_all (g k : Nat) (ps : List (List Int)) (u : World) (h : Parts u (some ⟨g, 0, none⟩) k ps) :
    Calls Tryz.prog 137 #[.slice (some ⟨g, 0, none⟩) k k] u fun e w' => ∃ g', e = .returned (.slice (some ⟨g', 0, none⟩) (ps.flatten.length + 4) (ps.flatten.length + 4)) ∧ u.heap.size ≤ g' ∧ Blk w' g' 5 (cellsOf .u8 (putL ps.flatten)) ∧ Below u.heap.size u w' := sumPut_any _ k k ps u h

end Go.Proofs.YtadcmoldpbnmnaaGreatDoor

