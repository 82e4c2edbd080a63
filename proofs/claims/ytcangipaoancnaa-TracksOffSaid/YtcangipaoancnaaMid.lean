/-
  Many cells at once, in the middle of a block, and in a block that was made just now. Nothing of the program is named here; no condition but those that are named.
-/
import Derived.Test.YtcangipaoancnaaBut
import Derived.Deep.MidRow
import Derived.Deep.WholeRow
import Derived.Deep.RegionLaw
namespace Go.Proofs.Ytcangipaoancnaa
open Go.RowKit

theorem Blk.rowF {u : World} {g : Nat} {t : TypeId} {cs cs' : Array Value} (hB : Blk u g t cs) : Blk (u.setRow g cs') g t cs' := setRow_heap u g cs cs' t (0, 0) hB
theorem setCells_heap : ∀ (new old P S : List Value) (o g : Nat) (t : TypeId) (w : World), Blk w g t (P ++ (old ++ S)).toArray → new.length = old.length → P.length = o → Blk (w.setCells g o new) g t (P ++ (new ++ S)).toArray ∧ But g w (w.setCells g o new)
  | [], old, P, S, o, g, t, w, h, hl, ho => by
    obtain rfl : old = [] := List.length_eq_zero_iff.1 hl.symm
    exact ⟨h, But.refl _ _⟩
  | v :: r, [], P, S, o, g, t, w, h, hl, ho => by simp at hl
  | v :: r, u :: r', P, S, o, g, t, w, h, hl, ho => by
    have h1 : Blk (w.setCell ⟨g, o, none⟩ v) g t ((P ++ [v]) ++ (r' ++ S)).toArray := by
      have := h.set_ o v
      rw [List.setIfInBounds_toArray, List.set_append_right _ _ (by omega), ho, Nat.sub_self] at this
      simpa using this
    obtain ⟨k1, k2⟩ := setCells_heap r r' (P ++ [v]) S (o + 1) g t (w.setCell ⟨g, o, none⟩ v) h1 (by simpa using hl) (by simp [ho])
    refine ⟨?_, (But.one o v).trans k2⟩
    simpa [World.setCells] using k1
/-- A value of many cells into a block that was made just now. -/
theorem store_big {O : List Value} (T : TypeId) (w : World) (g : Nat) (hg : g = w.heap.size) (Z : Array Value) (hz : Z.size = O.length) (h1 : ∀ v ∈ O, v.oneCell' = true) :
    (storeCells ⟨g, 0, none⟩ O).run Try.prog (w.alloc (.cells Z T)) = .ok () (w.alloc (.cells O.toArray T)) := by
  subst hg
  have := run_storeCells_from (P := Try.prog) w.heap.size T O 0 Z (w.alloc (.cells Z T)) (heap_alloc_last w _) (by omega) h1
  rw [this]
  simp [World.setRow_alloc_new]
/-- A value of many cells into the middle of a block. -/
theorem store_part {w : World} {g o : Nat} {t : TypeId} (new old P S : List Value) (h : Blk w g t (P ++ (old ++ S)).toArray) (hl : new.length = old.length) (ho : P.length = o) (h1 : ∀ v ∈ new, v.oneCell' = true) :
    (storeCells ⟨g, o, none⟩ new).run Try.prog w = .ok () (w.setCells g o new) := by
  have := run_storeCells_cells (P := Try.prog) g o new 0 w (fun j hj => by
    rw [h.cell, List.getElem?_toArray, List.getElem?_append_right (by omega), List.getElem?_append_left (by omega)]
    rw [List.getElem?_eq_getElem (by omega)]; rfl) (fun j _ => h.frozen _) h1
  simpa using this
theorem range_of {w : World} {g o : Nat} {t : TypeId} (L P S : List Value) (h : Blk w g t (P ++ (L ++ S)).toArray) (ho : P.length = o) : w.rangeAt g o L := fun j v hv => by
  have hj : j < L.length := (List.getElem?_eq_some_iff.1 hv).1
  rw [h.cell, List.getElem?_toArray, List.getElem?_append_right (by omega), ho, Nat.add_sub_cancel_left, List.getElem?_append_left hj]
  exact hv
/-- A result's variable, of many cells: stored whole, and loaded. -/
theorem res_big {w : World} {r : Nat} {T : TypeId} {Z : Array Value} (hZ : Blk w r T Z) (L : List Value) (hz : Z.size = L.length) (h1 : ∀ v ∈ L, v.oneCell' = true) (d : TypeDesc) (hu : Try.prog.underlying T = some d) (hd : d.isRow = true) (hi : (Try.prog.info? T).map (·.size) = some L.length) :
    (storeCells ⟨r, 0, none⟩ L).run Try.prog w = .ok () (w.setCells r 0 L) ∧ (loadVar T ⟨r, 0, none⟩).run Try.prog (w.setCells r 0 L) = .ok (.agg L.toArray) (w.setCells r 0 L) ∧ Blk (w.setCells r 0 L) r T L.toArray ∧ But r w (w.setCells r 0 L) := by
  have hB : Blk w r T ([] ++ (Z.toList ++ [])).toArray := by simpa using hZ
  have hl : L.length = Z.toList.length := by simp [hz]
  obtain ⟨q1, q2⟩ := setCells_heap L Z.toList [] [] 0 r T w hB hl rfl
  simp only [List.nil_append, List.append_nil] at q1
  exact ⟨store_part L Z.toList [] [] hB hl rfl h1, run_loadVar_mid _ r 0 T L d (fun j v hv => by rw [Nat.zero_add, q1.cell, List.getElem?_toArray]; exact hv) hu hd hi, q1, q2⟩
end Go.Proofs.Ytcangipaoancnaa

