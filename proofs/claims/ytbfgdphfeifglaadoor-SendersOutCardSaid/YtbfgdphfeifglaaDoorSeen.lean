/-
  A row of truths that is made and written in place: what it is made as, read and written. No condition but those that are named.
-/
import Derived.Test.YtbfgdphfeifglaaDoorKinds
namespace Go.Proofs.YtbfgdphfeifglaaDoor
open Go.RowKit

/-- The cells of truths. -/
def cellsB (l : List Bool) : Array Value := (l.map Value.bool).toArray
theorem cellsB_at (l : List Bool) (j : Nat) (h : j < l.length) : (cellsB l)[j]? = some (.bool (l.getD j false)) := by
  simp [cellsB, h]
theorem cellsB_set (l : List Bool) (j : Nat) (b : Bool) : (cellsB l).setIfInBounds j (.bool b) = cellsB (l.set j b) := by
  simp [cellsB, List.map_set]
theorem cellsB_made (n : Nat) : madeCells #[.bool false] n = cellsB (List.replicate n false) := by
  apply Array.toList_inj.1
  rw [toList_madeCells_one]
  simp [cellsB]
theorem infoBools : (Tryd.prog.info? 4).map (fun i => (i.zero, i.size, i.bytes)) = some (some (.bool false), 1, 1) := by kernel_rfl
theorem makeBools (L : Int) (h0 : 0 ≤ L) (h1 : L ≤ 1073741824) (u : World) :
    (Instr.makeSlice 134 (.int .i64 L) (.int .i64 L)).run Tryd.prog u = .ok (.slice (some ⟨u.heap.size, 0, none⟩) L.toNat L.toNat) (u.alloc (.cells (cellsB (List.replicate L.toNat false)) 4)) := by
  obtain ⟨i0, hi0, hz0, hz1, hz2⟩ := info_parts infoBools
  have h := run_make (P := Tryd.prog) u 134 4 i0 (.bool false) Tryd.underlying134 hi0 hz0 .i64 .i64 L L h0 (Int.le_refl _) (by rw [hz2]; omega) (by omega)
  rw [← cellsB_made]
  simpa [hz1, Value.cells] using h
/-- What is set is what was set, or the new one. -/
theorem set_true (l : List Bool) (j q : Nat) (h : (l.set j true).getD q false = true) : l.getD q false = true ∨ q = j := by
  by_cases e : j = q
  · exact .inr e.symm
  · left
    simpa [List.getD, e] using h
theorem none_true (n q : Nat) : (List.replicate n false).getD q false = false := by
  simp only [List.getD, List.getElem?_replicate]
  split <;> rfl
end Go.Proofs.YtbfgdphfeifglaaDoor

