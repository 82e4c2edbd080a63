/-
  The contract of package rings' Path: the nodes of the track path, in new memory, and true; nothing and false, if there is none. Conditions: the table of directions is as the program's text lays it; the numbers are of their kinds.
-/
import Derived.Test.YtgmoifbncijhdaaDoorRgP
import Derived.Test.YtgmoifbncijhdaaDoorRg3
namespace Go.Proofs.YtgmoifbncijhdaaDoor
open Go.RowKit Rg

theorem fill_set (j : Nat) (x : Int) (rest : List Int) : (List.replicate (j + 1) 0 ++ rest).set j x = List.replicate j 0 ++ x :: rest := by
  induction j with
  | zero => rfl
  | succ j ih => rw [List.replicate_succ, List.cons_append, List.set_cons_succ, ih, List.replicate_succ, List.cons_append]
theorem cellsOf_madeN (n : Nat) : madeCells #[.int .i64 0] n = cellsOf .i64 (List.replicate n 0) := by
  apply Array.toList_inj.1
  rw [toList_madeCells_one]
  simp [cellsOf]

end Go.Proofs.YtgmoifbncijhdaaDoor
