/-
  Lists of the three kinds that the laws' book knows, as the program has them: what an element is, and how such a list is cut. No condition but those that are named.
-/
import Derived.Test.YtkejpkcaojidaaaGreatDoorMem
import Derived.Deep.QuietTactic
import Derived.BigQuiet
import Derived.WalkSpells
import Derived.WalkLawsBesides
import Derived.WalkSmall
import Derived.Laws.CopyOwn
namespace Go.Proofs.YtkejpkcaojidaaaGreatDoor
set_option linter.unusedVariables false
set_option linter.unusedSimpArgs false
open Go.RowKit

theorem getD_at (xs : List Int) (k : Nat) (h : k < xs.length) : xs.getD k 0 = xs[k] := by simp [List.getD, h]
/-- A list that is being filled: the first k are there, the others are 0. -/
def fillTo (xs : List Int) (k : Nat) : List Int := xs.take k ++ List.replicate (xs.length - k) 0
theorem fillTo_length (xs : List Int) (k : Nat) (h : k ≤ xs.length) : (fillTo xs k).length = xs.length := by simp [fillTo]; omega
theorem fillTo_all (xs : List Int) (k : Nat) (h : xs.length ≤ k) : fillTo xs k = xs := by
  simp [fillTo, List.take_of_length_le h, Nat.sub_eq_zero_of_le h]
theorem fillTo_none (xs : List Int) : fillTo xs 0 = List.replicate xs.length 0 := by simp [fillTo]
theorem fillTo_set (xs : List Int) (k : Nat) (h : k < xs.length) : (fillTo xs k).set k (xs.getD k 0) = fillTo xs (k + 1) := by
  unfold fillTo
  rw [getD_at xs k h, List.take_succ_eq_append_getElem h, List.set_append_right _ _ (by simp; omega)]
  have e : xs.length - k = (xs.length - (k + 1)) + 1 := by omega
  rw [e, List.replicate_succ]
  have e2 : k - (xs.take k).length = 0 := by simp; omega
  rw [e2, List.set_cons_zero, List.append_assoc]
  rfl
theorem cellsOf_made (n : Nat) : madeCells #[.int .u8 0] n = cellsOf .u8 (List.replicate n 0) := by
  apply Array.toList_inj.1
  rw [toList_madeCells_one]
  simp [cellsOf]

theorem made_size (x : Value) (n : Nat) : (madeCells #[x] n).size = n := by simp [madeCells]
theorem splice_whole {α : Type} (L cs : List α) (h : cs.length = L.length) : splice L 0 cs = cs := by simp [splice, h]
/-- Where a list's part lies. -/
def cutA (A : Option Addr) (c l : Nat) : Option Addr := if c = l then A else A.map (·.add l)
theorem Lies.part {k : IntKind} {w : World} {B n c l h : Nat} {A : Option Addr} {xs : List Int} (hx : Lies k w B A n xs) (h1 : l ≤ h) (h2 : h ≤ n) (h3 : n ≤ c) : Lies k w B (cutA A c l) (h - l) ((xs.drop l).take (h - l)) := by
  have hl := hx.len
  refine ⟨by simp; omega, fun h0 => ?_⟩
  obtain ⟨b, off, rfl, hb, hc⟩ := hx.at_ (by omega)
  refine ⟨b, off + l, ?_, hb, fun j hj => ?_⟩
  · rw [cutA, if_neg (by omega)]; simp [Addr.add]
  · rw [Nat.add_assoc, hc (l + j) (by omega)]
    simp only [List.getD]
    rw [List.getElem?_take_of_lt hj, List.getElem?_drop]
theorem Lies.head {k : IntKind} {w : World} {B n h : Nat} {A : Option Addr} {xs : List Int} (hx : Lies k w B A n xs) (h2 : h ≤ n) : Lies k w B A h (xs.take h) := by
  have hl := hx.len
  refine ⟨by simp; omega, fun h0 => ?_⟩
  obtain ⟨b, off, rfl, hb, hc⟩ := hx.at_ (by omega)
  refine ⟨b, off, rfl, hb, fun j hj => ?_⟩
  rw [hc j (by omega)]
  simp only [List.getD]
  rw [List.getElem?_take_of_lt hj]
theorem Lies.tail {k : IntKind} {w : World} {B n c l : Nat} {A : Option Addr} {xs : List Int} (hx : Lies k w B A n xs) (h1 : l ≤ n) (h3 : n ≤ c) : Lies k w B (cutA A c l) (n - l) (xs.drop l) := by
  have h := hx.part (c := c) h1 (Nat.le_refl n) h3
  have hl := hx.len
  rw [List.take_of_length_le (by simp; omega)] at h
  exact h
end Go.Proofs.YtkejpkcaojidaaaGreatDoor

namespace Go.Proofs.YtkejpkcaojidaaaGreatDoor
open Go.RowKit
theorem infoSyms : (Tryz.prog.info? 47).map (fun i => (i.zero, i.size, i.bytes)) = some (some (.int .u8 0), 1, 1) := by kernel_rfl
theorem elemSyms : Tryz.prog.underlying 126 = some (.slice (Tryz.prog.elem 126)) := by kernel_rfl
theorem sizeSyms (w : World) : (sizeOf (Tryz.prog.elem 126)).run Tryz.prog w = .ok 1 w := by kernel_rfl
theorem szSyms : (Tryz.prog.info? 47).map (·.size) = some 1 := by kernel_rfl
theorem makeSyms (L : Int) (h0 : 0 ≤ L) (h1 : L ≤ 1073741824) (u : World) :
    (Instr.makeSlice 126 (.int .i64 L) (.int .i64 L)).run Tryz.prog u = .ok (.slice (some ⟨u.heap.size, 0, none⟩) L.toNat L.toNat) (u.alloc (.cells (madeCells #[.int .u8 0] L.toNat) 47)) := by
  obtain ⟨i0, hi0, hz0, hz1, hz2⟩ := info_parts infoSyms
  have h := run_make (P := Tryz.prog) u 126 47 i0 (.int .u8 0) Tryz.underlying126 hi0 hz0 .i64 .i64 L L h0 (Int.le_refl _) (by rw [hz2]; omega) (by omega)
  simpa [hz1, Value.cells] using h
theorem fromSyms (A : Option Addr) (n c : Nat) (l : Int) (h0 : 0 ≤ l) (h1 : l ≤ n) (w : World) :
    (Instr.sliceAt 126 (.slice A n c) (some (.int .i64 l)) none none).run Tryz.prog w = .ok (.slice (cutA A c l.toNat) (n - l.toNat) (c - l.toNat)) w := by
  rw [run_sliceAt_slice w _ _ _ _ _ elemSyms, run_slice_l w 126 A n c elemSyms .i64 l h0 h1, sizeSyms]
  simp only [Result.andThen, sliced, cutA, Nat.mul_one]
theorem infoBytes : (Tryz.prog.info? 5).map (fun i => (i.zero, i.size, i.bytes)) = some (some (.int .u8 0), 1, 1) := by kernel_rfl
theorem elemBytes : Tryz.prog.underlying 68 = some (.slice (Tryz.prog.elem 68)) := by kernel_rfl
theorem sizeBytes (w : World) : (sizeOf (Tryz.prog.elem 68)).run Tryz.prog w = .ok 1 w := by kernel_rfl
theorem szBytes : (Tryz.prog.info? 5).map (·.size) = some 1 := by kernel_rfl
theorem makeBytes (L : Int) (h0 : 0 ≤ L) (h1 : L ≤ 1073741824) (u : World) :
    (Instr.makeSlice 68 (.int .i64 L) (.int .i64 L)).run Tryz.prog u = .ok (.slice (some ⟨u.heap.size, 0, none⟩) L.toNat L.toNat) (u.alloc (.cells (madeCells #[.int .u8 0] L.toNat) 5)) := by
  obtain ⟨i0, hi0, hz0, hz1, hz2⟩ := info_parts infoBytes
  have h := run_make (P := Tryz.prog) u 68 5 i0 (.int .u8 0) Tryz.underlying68 hi0 hz0 .i64 .i64 L L h0 (Int.le_refl _) (by rw [hz2]; omega) (by omega)
  simpa [hz1, Value.cells] using h
/-- A list cut at both ends, at its end, at its beginning. -/
theorem partBytes (A : Option Addr) (n c : Nat) (l h : Int) (h0 : 0 ≤ l) (h1 : l ≤ h) (h2 : h ≤ c) (w : World) :
    (Instr.sliceAt 68 (.slice A n c) (some (.int .i64 l)) (some (.int .i64 h)) none).run Tryz.prog w = .ok (.slice (cutA A c l.toNat) (h.toNat - l.toNat) (c - l.toNat)) w := by
  rw [run_sliceAt_slice w _ _ _ _ _ elemBytes, run_slice_lh w 68 A n c elemBytes .i64 .i64 l h h0 h1 h2, sizeBytes]
  simp only [Result.andThen, sliced, cutA, Nat.mul_one]
theorem uptoBytes (A : Option Addr) (n c : Nat) (h : Int) (h0 : 0 ≤ h) (h2 : h ≤ c) (w : World) :
    (Instr.sliceAt 68 (.slice A n c) none (some (.int .i64 h)) none).run Tryz.prog w = .ok (.slice A h.toNat c) w := by
  rw [run_sliceAt_slice w _ _ _ _ _ elemBytes, run_slice_h w 68 A n c elemBytes .i64 h h0 h2, sizeBytes]
  simp only [Result.andThen, sliced]
  cases A <;> simp [Addr.add]
theorem fromBytes (A : Option Addr) (n c : Nat) (l : Int) (h0 : 0 ≤ l) (h1 : l ≤ n) (w : World) :
    (Instr.sliceAt 68 (.slice A n c) (some (.int .i64 l)) none none).run Tryz.prog w = .ok (.slice (cutA A c l.toNat) (n - l.toNat) (c - l.toNat)) w := by
  rw [run_sliceAt_slice w _ _ _ _ _ elemBytes, run_slice_l w 68 A n c elemBytes .i64 l h0 h1, sizeBytes]
  simp only [Result.andThen, sliced, cutA, Nat.mul_one]
theorem infoNums : (Tryz.prog.info? 3).map (fun i => (i.zero, i.size, i.bytes)) = some (some (.int .i64 0), 1, 8) := by kernel_rfl
theorem elemNums : Tryz.prog.underlying 22 = some (.slice (Tryz.prog.elem 22)) := by kernel_rfl
theorem sizeNums (w : World) : (sizeOf (Tryz.prog.elem 22)).run Tryz.prog w = .ok 1 w := by kernel_rfl
theorem szNums : (Tryz.prog.info? 3).map (·.size) = some 1 := by kernel_rfl
theorem makeNums (L : Int) (h0 : 0 ≤ L) (h1 : L ≤ 1073741824) (u : World) :
    (Instr.makeSlice 22 (.int .i64 L) (.int .i64 L)).run Tryz.prog u = .ok (.slice (some ⟨u.heap.size, 0, none⟩) L.toNat L.toNat) (u.alloc (.cells (madeCells #[.int .i64 0] L.toNat) 3)) := by
  obtain ⟨i0, hi0, hz0, hz1, hz2⟩ := info_parts infoNums
  have h := run_make (P := Tryz.prog) u 22 3 i0 (.int .i64 0) Tryz.underlying22 hi0 hz0 .i64 .i64 L L h0 (Int.le_refl _) (by rw [hz2]; omega) (by omega)
  simpa [hz1, Value.cells] using h
end Go.Proofs.YtkejpkcaojidaaaGreatDoor

