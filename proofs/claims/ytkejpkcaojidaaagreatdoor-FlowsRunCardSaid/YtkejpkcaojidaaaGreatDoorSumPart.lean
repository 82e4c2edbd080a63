/-
  The walk of the law SumsParts: it returns true, and nothing that was there has turned. Conditions: the slice's reading, bytes, a length within the capacity, two numbers.
-/
import Derived.Test.YtkejpkcaojidaaaGreatDoorSumChk
import Derived.Test.YtkejpkcaojidaaaGreatDoorSameB
import Derived.Lib.SlBytesConst
import Derived.Test.YtkejpkcaojidaaaGreatDoorReg2
import Derived.Deep.RegionHeld3
namespace Go.Proofs.YtkejpkcaojidaaaGreatDoor
set_option linter.unusedVariables false
set_option linter.unusedSimpArgs false
open Go.RowKit Crc

theorem check_yes (A : Option Addr) (n c : Nat) (l : List Int) (w : World) (hx : Lies .u8 w w.heap.size A n l) (hb : ∀ x ∈ l, 0 ≤ x ∧ x ≤ 255) (hn : n ≤ 65536) (hcap : n ≤ c) (h : checkB l = true) :
    Calls Tryz.prog 148 #[.slice A n c] w fun e w' => ∃ g, e = .returned (.tuple #[.slice (some ⟨g, 0, none⟩) (n - 4) (n - 4), .bool true]) ∧ w.heap.size ≤ g ∧ Blk w' g 5 (cellsOf .u8 (l.take (n - 4))) ∧ Below w.heap.size w w' := by
  have h4 : 4 ≤ n := by rw [← hx.len]; simp [checkB] at h; exact h.1
  refine (check_long A n c l w hx hb hn hcap h4).mono fun e w' h1 => ?_
  rcases h1 with ⟨h2, _⟩ | ⟨_, h2⟩
  · rw [h] at h2; cases h2
  · exact h2
theorem check_no (A : Option Addr) (n c : Nat) (l : List Int) (w : World) (hx : Lies .u8 w w.heap.size A n l) (hb : ∀ x ∈ l, 0 ≤ x ∧ x ≤ 255) (hn : n ≤ 65536) (hcap : n ≤ c) (h : checkB l = false) :
    Calls Tryz.prog 148 #[.slice A n c] w fun e w' => e = .returned (.tuple #[.slice none 0 0, .bool false]) ∧ Below w.heap.size w w' := by
  rcases Nat.lt_or_ge n 4 with h4 | h4
  · refine (check_short A n c w h4).mono fun e w' h1 => ?_
    obtain ⟨h1, h2⟩ := h1
    subst h2
    exact ⟨h1, Below.refl _ _⟩
  · refine (check_long A n c l w hx hb hn hcap h4).mono fun e w' h1 => ?_
    rcases h1 with ⟨_, h2⟩ | ⟨h2, _⟩
    · exact h2
    · rw [h] at h2; cases h2
theorem of1 (A : Option Addr) (n c : Nat) (l : List Int) (u : World) (hx : Lies .u8 u u.heap.size A n l) (hb : ∀ x ∈ l, 0 ≤ x ∧ x ≤ 255) (hn : n ≤ 65536) (H : Nat) (hH : u.heap.size = H) :
    Calls Tryz.prog 142 #[.slice (some ⟨H, 0, none⟩) 1 1] (u.alloc (.cells #[.slice A n c] 68)) fun e w' => e = .returned (.int .u32 (sumI l)) ∧ Below u.heap.size u w' := by
  subst hH
  refine (sumOf_any _ 1 1 [l] _ (parts1 (c := c) hx hb hn)).mono fun e w' h => ?_
  obtain ⟨he, hb⟩ := h
  have hf : [l].flatten = l := by simp
  rw [hf] at he
  exact ⟨he, (below_al (Below.refl _ _) _).trans (hb.mono (by simp))⟩

end Go.Proofs.YtkejpkcaojidaaaGreatDoor

namespace Go.Proofs.YtkejpkcaojidaaaGreatDoor
open Go.RowKit Crc

theorem bitsL_length (l : List Int) : (bitsL l).length = 8 * l.length := by
  induction l with
  | nil => rfl
  | cons x l ih => rw [bitsL, List.flatMap_cons, List.length_append, bits8_length, ← bitsL, ih, List.length_cons]; omega
def Reg.Fact.parts (l : List Int) : Reg.Fact := ⟨fun v w => ∃ g, v = .slice (some ⟨g, 0, none⟩) 1 1 ∧ Parts w (some ⟨g, 0, none⟩) 1 [l], fun _ _ _ hb h => by
  obtain ⟨g, e, hp⟩ := h
  exact ⟨g, e, hp.on hb⟩⟩

end Go.Proofs.YtkejpkcaojidaaaGreatDoor

namespace Go.Proofs.YtkejpkcaojidaaaGreatDoor
open Go.RowKit Crc

def Reg.Fact.partsL (k : Nat) (ps : List (List Int)) : Reg.Fact := ⟨fun v w => ∃ g, v = .slice (some ⟨g, 0, none⟩) k k ∧ Parts w (some ⟨g, 0, none⟩) k ps, fun _ _ _ hb h => by
  obtain ⟨g, e, hp⟩ := h
  exact ⟨g, e, hp.on hb⟩⟩
/-- A row of lists, built. -/
theorem partsNew (u : World) (vs : List (Option Addr × Nat × Nat × List Int)) {k : Nat} (hk : vs.length = k) (hf : k ≤ 8) (h : ∀ p ∈ vs, Lies .u8 u u.heap.size p.1 p.2.1 p.2.2.2 ∧ p.2.1 ≤ 65536 ∧ ∀ x ∈ p.2.2.2, 0 ≤ x ∧ x ≤ 255) :
    Parts (u.alloc (.cells (vs.map fun p => Value.slice p.1 p.2.1 p.2.2.1).toArray 68)) (some ⟨u.heap.size, 0, none⟩) k (vs.map (·.2.2.2)) :=
  ⟨by simp [hk], hf, fun i hi => by
    have hi' : i < vs.length := by omega
    obtain ⟨h1, h2, _⟩ := h vs[i] (List.getElem_mem hi')
    refine ⟨u.heap.size, 0, rfl, by simp, vs[i].1, vs[i].2.1, vs[i].2.2.1, ?_, ?_, h2⟩
    · rw [Nat.zero_add, (Blk.new u 68 _).cell i]
      simp [hi']
    · have := h1.al (.cells (vs.map fun p => Value.slice p.1 p.2.1 p.2.2.1).toArray 68)
      simpa [List.getD, hi'] using this, fun l hl => by
    obtain ⟨p, hp, rfl⟩ := List.mem_map.1 hl
    exact (h p hp).2.2⟩

theorem four_bd (v : Int) (h0 : 0 ≤ v) (h1 : v < 4294967296) : ∀ x ∈ four v, 0 ≤ x ∧ x ≤ 255 := by
  simp only [four, List.forall_mem_cons]
  exact ⟨by omega, by omega, by omega, by omega, fun _ h => by cases h⟩
theorem putL_bd (l : List Int) (h : ∀ x ∈ l, 0 ≤ x ∧ x ≤ 255) : ∀ x ∈ putL l, 0 ≤ x ∧ x ≤ 255 := by
  intro x hx
  rcases List.mem_append.1 hx with h1 | h1
  · exact h x h1
  · exact four_bd _ (iv_lo _) (iv_hi _) x h1
theorem sumPut_all (g k : Nat) (ps : List (List Int)) (u : World) (h : Parts u (some ⟨g, 0, none⟩) k ps) :
    Calls Tryz.prog 136 #[.slice (some ⟨g, 0, none⟩) k k] u fun e w' => ∃ g', e = .returned (.slice (some ⟨g', 0, none⟩) (ps.flatten.length + 4) (ps.flatten.length + 4)) ∧ u.heap.size ≤ g' ∧ Blk w' g' 5 (cellsOf .u8 (putL ps.flatten)) ∧ Below u.heap.size u w' := sumPut_any _ k k ps u h

end Go.Proofs.YtkejpkcaojidaaaGreatDoor

