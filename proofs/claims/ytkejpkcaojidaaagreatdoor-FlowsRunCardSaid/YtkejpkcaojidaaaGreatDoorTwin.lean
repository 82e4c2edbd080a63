/-
  The contracts of the law's Twin.. and Left..: a twin is the same list in new memory with two marks behind; Left.. returns true of a twin that is as it was. Conditions: the slices' readings, lengths of at most 65536.
-/
import Derived.Test.YtkejpkcaojidaaaGreatDoorSameB
import Derived.Test.YtkejpkcaojidaaaGreatDoorApp
import Derived.Test.YtkejpkcaojidaaaGreatDoorKinds
namespace Go.Proofs.YtkejpkcaojidaaaGreatDoor
set_option linter.unusedVariables false
set_option linter.unusedSimpArgs false
open Go.RowKit
end Go.Proofs.YtkejpkcaojidaaaGreatDoor

namespace Go.Proofs.YtkejpkcaojidaaaGreatDoor
open Go.RowKit

/-- A twin: the slice '.slice (some g) n c' holds xs, two marks behind it, in a block of its own. -/
def TwinOf (k : IntKind) (w : World) (t : TypeId) (g n c : Nat) (xs : List Int) : Prop :=
  xs.length = n ∧ n + 2 ≤ c ∧ c ≤ maxLen ∧ ∃ cs : Array Value, Blk w g t cs ∧ cs.size = c ∧ ∀ j, j < n + 2 → cs[j]? = some (.int k ((xs ++ [77, 77]).getD j 0))
section
variable {k : IntKind} {w w' : World} {t : TypeId} {g n c : Nat} {xs : List Int}
theorem TwinOf.len (h : TwinOf k w t g n c xs) : xs.length = n := h.1
theorem TwinOf.cap (h : TwinOf k w t g n c xs) : n + 2 ≤ c := h.2.1
theorem TwinOf.on (h : TwinOf k w t g n c xs) (hb : Below w.heap.size w w') : TwinOf k w' t g n c xs := by
  obtain ⟨h1, h2, h3, cs, h4, h5⟩ := h
  exact ⟨h1, h2, h3, cs, h4.on hb, h5⟩
theorem TwinOf.cell (h : TwinOf k w t g n c xs) {j : Nat} (hj : j < n + 2) : w.cell? ⟨g, j, none⟩ = some (.int k ((xs ++ [77, 77]).getD j 0)) := by
  obtain ⟨_, _, _, cs, h4, _, h5⟩ := h
  rw [h4.cell, h5 j hj]
theorem TwinOf.lt (h : TwinOf k w t g n c xs) : g < w.heap.size := by
  obtain ⟨_, _, _, cs, h4, _⟩ := h
  exact h4.lt
theorem TwinOf.lies (h : TwinOf k w t g n c xs) : Lies k w w.heap.size (some ⟨g, 0, none⟩) n xs :=
  ⟨h.1, fun _ => ⟨g, 0, rfl, h.lt, fun j hj => by
    have hl := h.1
    rw [Nat.zero_add, h.cell (by omega)]
    simp only [List.getD]
    rw [List.getElem?_append_left (by omega)]⟩⟩
end
end Go.Proofs.YtkejpkcaojidaaaGreatDoor

