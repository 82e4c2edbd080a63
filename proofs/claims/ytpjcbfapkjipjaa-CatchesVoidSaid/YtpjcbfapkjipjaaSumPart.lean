/-
  The walk of the law SumsParts: it returns true, and nothing that was there has turned. Conditions: the slice's reading, bytes, a length within the capacity, two numbers.
-/
import Derived.Test.YtpjcbfapkjipjaaSumEven
namespace Go.Proofs.Ytpjcbfapkjipjaa
open Go.RowKit Crc

def Reg.Fact.partsL (k : Nat) (ps : List (List Int)) : Reg.Fact := ⟨fun v w => ∃ g, v = .slice (some ⟨g, 0, none⟩) k k ∧ Parts w (some ⟨g, 0, none⟩) k ps, fun _ _ _ hb h => by
  obtain ⟨g, e, hp⟩ := h
  exact ⟨g, e, hp.on hb⟩⟩
/-- A row of lists, built. -/
theorem partsNew (u : World) (vs : List (Option Addr × Nat × Nat × List Int)) {k : Nat} (hk : vs.length = k) (hf : k ≤ 8) (h : ∀ p ∈ vs, Lies .u8 u u.heap.size p.1 p.2.1 p.2.2.2 ∧ p.2.1 ≤ 65536 ∧ ∀ x ∈ p.2.2.2, 0 ≤ x ∧ x ≤ 255) :
    Parts (u.alloc (.cells (vs.map fun p => Value.slice p.1 p.2.1 p.2.2.1).toArray 79)) (some ⟨u.heap.size, 0, none⟩) k (vs.map (·.2.2.2)) :=
  ⟨by simp [hk], hf, fun i hi => by
    have hi' : i < vs.length := by omega
    obtain ⟨h1, h2, _⟩ := h vs[i] (List.getElem_mem hi')
    refine ⟨u.heap.size, 0, rfl, by simp, vs[i].1, vs[i].2.1, vs[i].2.2.1, ?_, ?_, h2⟩
    · rw [Nat.zero_add, (Blk.new u 79 _).cell i]
      simp [hi']
    · have := h1.al (.cells (vs.map fun p => Value.slice p.1 p.2.1 p.2.2.1).toArray 79)
      simpa [List.getD, hi'] using this, fun l hl => by
    obtain ⟨p, hp, rfl⟩ := List.mem_map.1 hl
    exact (h p hp).2.2⟩

theorem parts_flat (b : List Int) (I J : Nat) (h : I ≤ J) : [b.take I, (b.drop I).take (J - I), [], b.drop J].flatten = b := by
  have h1 : b.drop J = (b.drop I).drop (J - I) := by rw [List.drop_drop]; congr 1; omega
  simp only [List.flatten_cons, List.flatten_nil, List.append_nil, List.nil_append]
  rw [h1, List.take_append_drop, List.take_append_drop]
theorem four_bd (v : Int) (h0 : 0 ≤ v) (h1 : v < 4294967296) : ∀ x ∈ four v, 0 ≤ x ∧ x ≤ 255 := by
  simp only [four, List.forall_mem_cons]
  exact ⟨by omega, by omega, by omega, by omega, fun _ h => by cases h⟩
theorem putL_bd (l : List Int) (h : ∀ x ∈ l, 0 ≤ x ∧ x ≤ 255) : ∀ x ∈ putL l, 0 ≤ x ∧ x ≤ 255 := by
  intro x hx
  rcases List.mem_append.1 hx with h1 | h1
  · exact h x h1
  · exact four_bd _ (iv_lo _) (iv_hi _) x h1
theorem sumOf_all (g k : Nat) (ps : List (List Int)) (u : World) (h : Parts u (some ⟨g, 0, none⟩) k ps) :
    Calls Try.prog 56 #[.slice (some ⟨g, 0, none⟩) k k] u fun e w' => e = .returned (.int .u32 (sumI ps.flatten)) ∧ Below u.heap.size u w' := sumOf_any _ k k ps u h
theorem sumPut_all (g k : Nat) (ps : List (List Int)) (u : World) (h : Parts u (some ⟨g, 0, none⟩) k ps) :
    Calls Try.prog 58 #[.slice (some ⟨g, 0, none⟩) k k] u fun e w' => ∃ g', e = .returned (.slice (some ⟨g', 0, none⟩) (ps.flatten.length + 4) (ps.flatten.length + 4)) ∧ u.heap.size ≤ g' ∧ Blk w' g' 5 (cellsOf .u8 (putL ps.flatten)) ∧ Below u.heap.size u w' := sumPut_any _ k k ps u h

end Go.Proofs.Ytpjcbfapkjipjaa
