/-
  Lists of the three kinds that the laws' book knows, as the program has them: what an element is, and how such a list is cut. No condition but those that are named.
-/
import Derived.Test.YtpjcbfapkjipjaaLst
namespace Go.Proofs.Ytpjcbfapkjipjaa
open Go.RowKit
theorem infoSyms : (Try.prog.info? 31).map (fun i => (i.zero, i.size, i.bytes)) = some (some (.int .u8 0), 1, 1) := by kernel_rfl
theorem elemSyms : Try.prog.underlying 22 = some (.slice (Try.prog.elem 22)) := by kernel_rfl
theorem sizeSyms (w : World) : (sizeOf (Try.prog.elem 22)).run Try.prog w = .ok 1 w := by kernel_rfl
/-- A list cut at its end: within its capacity. -/
theorem headSyms (g n c : Nat) (h : Int) (h0 : 0 ≤ h) (h2 : h ≤ c) (w : World) :
    (Instr.sliceAt 22 (.slice (some ⟨g, 0, none⟩) n c) none (some (.int .i64 h)) none).run Try.prog w = .ok (.slice (some ⟨g, 0, none⟩) h.toNat c) w := by
  rw [run_sliceAt_slice w _ _ _ _ _ elemSyms, run_slice_h w 22 _ n c elemSyms .i64 h h0 h2, sizeSyms]
  simp only [Result.andThen, sliced]
  simp [Addr.add]
/-- A twin cut to its list, without room behind. -/
theorem cut3Syms (g n c : Nat) (h : n ≤ c) (w : World) :
    (Instr.sliceAt 22 (.slice (some ⟨g, 0, none⟩) n c) none (some (.int .i64 (n : Int))) (some (.int .i64 (n : Int)))).run Try.prog w = .ok (.slice (some ⟨g, 0, none⟩) n n) w := by
  rw [run_sliceAt_slice w _ _ _ _ _ elemSyms, run_slice_hm w 22 _ n c elemSyms .i64 .i64 (n : Int) (n : Int) (by omega) (by omega) (by omega), sizeSyms]
  simp only [Result.andThen, sliced]
  simp [Addr.add]
theorem szSyms : (Try.prog.info? 31).map (·.size) = some 1 := by kernel_rfl
theorem makeSyms (L : Int) (h0 : 0 ≤ L) (h1 : L ≤ 1073741824) (u : World) :
    (Instr.makeSlice 22 (.int .i64 L) (.int .i64 L)).run Try.prog u = .ok (.slice (some ⟨u.heap.size, 0, none⟩) L.toNat L.toNat) (u.alloc (.cells (madeCells #[.int .u8 0] L.toNat) 31)) := by
  obtain ⟨i0, hi0, hz0, hz1, hz2⟩ := info_parts infoSyms
  have h := run_make (P := Try.prog) u 22 31 i0 (.int .u8 0) Try.underlying22 hi0 hz0 .i64 .i64 L L h0 (Int.le_refl _) (by rw [hz2]; omega) (by omega)
  simpa [hz1, Value.cells] using h
/-- A list cut at both ends, at its end, at its beginning. -/
theorem partSyms (A : Option Addr) (n c : Nat) (l h : Int) (h0 : 0 ≤ l) (h1 : l ≤ h) (h2 : h ≤ c) (w : World) :
    (Instr.sliceAt 22 (.slice A n c) (some (.int .i64 l)) (some (.int .i64 h)) none).run Try.prog w = .ok (.slice (cutA A c l.toNat) (h.toNat - l.toNat) (c - l.toNat)) w := by
  rw [run_sliceAt_slice w _ _ _ _ _ elemSyms, run_slice_lh w 22 A n c elemSyms .i64 .i64 l h h0 h1 h2, sizeSyms]
  simp only [Result.andThen, sliced, cutA, Nat.mul_one]
theorem uptoSyms (A : Option Addr) (n c : Nat) (h : Int) (h0 : 0 ≤ h) (h2 : h ≤ c) (w : World) :
    (Instr.sliceAt 22 (.slice A n c) none (some (.int .i64 h)) none).run Try.prog w = .ok (.slice A h.toNat c) w := by
  rw [run_sliceAt_slice w _ _ _ _ _ elemSyms, run_slice_h w 22 A n c elemSyms .i64 h h0 h2, sizeSyms]
  simp only [Result.andThen, sliced]
  cases A <;> simp [Addr.add]
theorem fromSyms (A : Option Addr) (n c : Nat) (l : Int) (h0 : 0 ≤ l) (h1 : l ≤ n) (w : World) :
    (Instr.sliceAt 22 (.slice A n c) (some (.int .i64 l)) none none).run Try.prog w = .ok (.slice (cutA A c l.toNat) (n - l.toNat) (c - l.toNat)) w := by
  rw [run_sliceAt_slice w _ _ _ _ _ elemSyms, run_slice_l w 22 A n c elemSyms .i64 l h0 h1, sizeSyms]
  simp only [Result.andThen, sliced, cutA, Nat.mul_one]
theorem infoBytes : (Try.prog.info? 5).map (fun i => (i.zero, i.size, i.bytes)) = some (some (.int .u8 0), 1, 1) := by kernel_rfl
theorem elemBytes : Try.prog.underlying 79 = some (.slice (Try.prog.elem 79)) := by kernel_rfl
theorem sizeBytes (w : World) : (sizeOf (Try.prog.elem 79)).run Try.prog w = .ok 1 w := by kernel_rfl
/-- A list cut at its end: within its capacity. -/
theorem headBytes (g n c : Nat) (h : Int) (h0 : 0 ≤ h) (h2 : h ≤ c) (w : World) :
    (Instr.sliceAt 79 (.slice (some ⟨g, 0, none⟩) n c) none (some (.int .i64 h)) none).run Try.prog w = .ok (.slice (some ⟨g, 0, none⟩) h.toNat c) w := by
  rw [run_sliceAt_slice w _ _ _ _ _ elemBytes, run_slice_h w 79 _ n c elemBytes .i64 h h0 h2, sizeBytes]
  simp only [Result.andThen, sliced]
  simp [Addr.add]
/-- A twin cut to its list, without room behind. -/
theorem cut3Bytes (g n c : Nat) (h : n ≤ c) (w : World) :
    (Instr.sliceAt 79 (.slice (some ⟨g, 0, none⟩) n c) none (some (.int .i64 (n : Int))) (some (.int .i64 (n : Int)))).run Try.prog w = .ok (.slice (some ⟨g, 0, none⟩) n n) w := by
  rw [run_sliceAt_slice w _ _ _ _ _ elemBytes, run_slice_hm w 79 _ n c elemBytes .i64 .i64 (n : Int) (n : Int) (by omega) (by omega) (by omega), sizeBytes]
  simp only [Result.andThen, sliced]
  simp [Addr.add]
theorem szBytes : (Try.prog.info? 5).map (·.size) = some 1 := by kernel_rfl
theorem makeBytes (L : Int) (h0 : 0 ≤ L) (h1 : L ≤ 1073741824) (u : World) :
    (Instr.makeSlice 79 (.int .i64 L) (.int .i64 L)).run Try.prog u = .ok (.slice (some ⟨u.heap.size, 0, none⟩) L.toNat L.toNat) (u.alloc (.cells (madeCells #[.int .u8 0] L.toNat) 5)) := by
  obtain ⟨i0, hi0, hz0, hz1, hz2⟩ := info_parts infoBytes
  have h := run_make (P := Try.prog) u 79 5 i0 (.int .u8 0) Try.underlying79 hi0 hz0 .i64 .i64 L L h0 (Int.le_refl _) (by rw [hz2]; omega) (by omega)
  simpa [hz1, Value.cells] using h
/-- A list cut at both ends, at its end, at its beginning. -/
theorem partBytes (A : Option Addr) (n c : Nat) (l h : Int) (h0 : 0 ≤ l) (h1 : l ≤ h) (h2 : h ≤ c) (w : World) :
    (Instr.sliceAt 79 (.slice A n c) (some (.int .i64 l)) (some (.int .i64 h)) none).run Try.prog w = .ok (.slice (cutA A c l.toNat) (h.toNat - l.toNat) (c - l.toNat)) w := by
  rw [run_sliceAt_slice w _ _ _ _ _ elemBytes, run_slice_lh w 79 A n c elemBytes .i64 .i64 l h h0 h1 h2, sizeBytes]
  simp only [Result.andThen, sliced, cutA, Nat.mul_one]
theorem uptoBytes (A : Option Addr) (n c : Nat) (h : Int) (h0 : 0 ≤ h) (h2 : h ≤ c) (w : World) :
    (Instr.sliceAt 79 (.slice A n c) none (some (.int .i64 h)) none).run Try.prog w = .ok (.slice A h.toNat c) w := by
  rw [run_sliceAt_slice w _ _ _ _ _ elemBytes, run_slice_h w 79 A n c elemBytes .i64 h h0 h2, sizeBytes]
  simp only [Result.andThen, sliced]
  cases A <;> simp [Addr.add]
theorem fromBytes (A : Option Addr) (n c : Nat) (l : Int) (h0 : 0 ≤ l) (h1 : l ≤ n) (w : World) :
    (Instr.sliceAt 79 (.slice A n c) (some (.int .i64 l)) none none).run Try.prog w = .ok (.slice (cutA A c l.toNat) (n - l.toNat) (c - l.toNat)) w := by
  rw [run_sliceAt_slice w _ _ _ _ _ elemBytes, run_slice_l w 79 A n c elemBytes .i64 l h0 h1, sizeBytes]
  simp only [Result.andThen, sliced, cutA, Nat.mul_one]
end Go.Proofs.Ytpjcbfapkjipjaa
