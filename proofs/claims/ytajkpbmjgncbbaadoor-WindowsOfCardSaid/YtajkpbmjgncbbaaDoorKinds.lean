/-
  Lists of the three kinds that the laws' book knows, as the program has them: what an element is, and how such a list is cut. No condition but those that are named.
-/
import Derived.Test.YtajkpbmjgncbbaaDoorLst
namespace Go.Proofs.YtajkpbmjgncbbaaDoor
open Go.RowKit
theorem infoNums : (Tryd.prog.info? 3).map (fun i => (i.zero, i.size, i.bytes)) = some (some (.int .i64 0), 1, 8) := by kernel_rfl
theorem elemNums : Tryd.prog.underlying 22 = some (.slice (Tryd.prog.elem 22)) := by kernel_rfl
theorem sizeNums (w : World) : (sizeOf (Tryd.prog.elem 22)).run Tryd.prog w = .ok 1 w := by kernel_rfl
/-- A list cut at its end: within its capacity. -/
theorem headNums (g n c : Nat) (h : Int) (h0 : 0 ≤ h) (h2 : h ≤ c) (w : World) :
    (Instr.sliceAt 22 (.slice (some ⟨g, 0, none⟩) n c) none (some (.int .i64 h)) none).run Tryd.prog w = .ok (.slice (some ⟨g, 0, none⟩) h.toNat c) w := by
  rw [run_sliceAt_slice w _ _ _ _ _ elemNums, run_slice_h w 22 _ n c elemNums .i64 h h0 h2, sizeNums]
  simp only [Result.andThen, sliced]
  simp [Addr.add]
/-- A twin cut to its list, without room behind. -/
theorem cut3Nums (g n c : Nat) (h : n ≤ c) (w : World) :
    (Instr.sliceAt 22 (.slice (some ⟨g, 0, none⟩) n c) none (some (.int .i64 (n : Int))) (some (.int .i64 (n : Int)))).run Tryd.prog w = .ok (.slice (some ⟨g, 0, none⟩) n n) w := by
  rw [run_sliceAt_slice w _ _ _ _ _ elemNums, run_slice_hm w 22 _ n c elemNums .i64 .i64 (n : Int) (n : Int) (by omega) (by omega) (by omega), sizeNums]
  simp only [Result.andThen, sliced]
  simp [Addr.add]
theorem szNums : (Tryd.prog.info? 3).map (·.size) = some 1 := by kernel_rfl
theorem makeNums (L : Int) (h0 : 0 ≤ L) (h1 : L ≤ 1073741824) (u : World) :
    (Instr.makeSlice 22 (.int .i64 L) (.int .i64 L)).run Tryd.prog u = .ok (.slice (some ⟨u.heap.size, 0, none⟩) L.toNat L.toNat) (u.alloc (.cells (madeCells #[.int .i64 0] L.toNat) 3)) := by
  obtain ⟨i0, hi0, hz0, hz1, hz2⟩ := info_parts infoNums
  have h := run_make (P := Tryd.prog) u 22 3 i0 (.int .i64 0) Tryd.underlying22 hi0 hz0 .i64 .i64 L L h0 (Int.le_refl _) (by rw [hz2]; omega) (by omega)
  simpa [hz1, Value.cells] using h
/-- A list cut at both ends, at its end, at its beginning. -/
theorem partNums (A : Option Addr) (n c : Nat) (l h : Int) (h0 : 0 ≤ l) (h1 : l ≤ h) (h2 : h ≤ c) (w : World) :
    (Instr.sliceAt 22 (.slice A n c) (some (.int .i64 l)) (some (.int .i64 h)) none).run Tryd.prog w = .ok (.slice (cutA A c l.toNat) (h.toNat - l.toNat) (c - l.toNat)) w := by
  rw [run_sliceAt_slice w _ _ _ _ _ elemNums, run_slice_lh w 22 A n c elemNums .i64 .i64 l h h0 h1 h2, sizeNums]
  simp only [Result.andThen, sliced, cutA, Nat.mul_one]
theorem uptoNums (A : Option Addr) (n c : Nat) (h : Int) (h0 : 0 ≤ h) (h2 : h ≤ c) (w : World) :
    (Instr.sliceAt 22 (.slice A n c) none (some (.int .i64 h)) none).run Tryd.prog w = .ok (.slice A h.toNat c) w := by
  rw [run_sliceAt_slice w _ _ _ _ _ elemNums, run_slice_h w 22 A n c elemNums .i64 h h0 h2, sizeNums]
  simp only [Result.andThen, sliced]
  cases A <;> simp [Addr.add]
theorem fromNums (A : Option Addr) (n c : Nat) (l : Int) (h0 : 0 ≤ l) (h1 : l ≤ n) (w : World) :
    (Instr.sliceAt 22 (.slice A n c) (some (.int .i64 l)) none none).run Tryd.prog w = .ok (.slice (cutA A c l.toNat) (n - l.toNat) (c - l.toNat)) w := by
  rw [run_sliceAt_slice w _ _ _ _ _ elemNums, run_slice_l w 22 A n c elemNums .i64 l h0 h1, sizeNums]
  simp only [Result.andThen, sliced, cutA, Nat.mul_one]
end Go.Proofs.YtajkpbmjgncbbaaDoor

