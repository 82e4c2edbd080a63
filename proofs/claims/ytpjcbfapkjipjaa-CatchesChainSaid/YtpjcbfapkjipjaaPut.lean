/-
  The contract of bits.Put: the symbols with the number's behind them, in new memory; nothing that was there has turned. Conditions: the slice's reading, a length of at most 65536, a number of 64 bits.
-/
import Derived.Test.YtpjcbfapkjipjaaOf
import Derived.ScopeJumps
import Derived.WalkMore
import Derived.Deep.Cut
import Derived.Deep.CutRange
namespace Go.Proofs.Ytpjcbfapkjipjaa
open Go.RowKit

/-- How many bits are put. -/
def manyN (bits : Int) : Nat := (min (max bits 0) 64).toNat
/-- The number's symbols, of so many bits: symbol i is that of bit (m - 1 - i). -/
def symL (n : Int) (m : Nat) : List Int := (List.range m).map fun i => symI (n / 2 ^ (m - 1 - i))
theorem symL_length (n : Int) (m : Nat) : (symL n m).length = m := by simp [symL]

theorem manyN_le (b : Int) : manyN b ≤ 64 := by unfold manyN; omega
theorem putL_at (v : Int) (M i : Nat) (h : i < M) : (symL v M).getD i 0 = symI (v / 2 ^ (M - 1 - i)) := by simp [symL, h]
theorem put_at (xs : List Int) (v : Int) (M m n : Nat) (hn : xs.length = n) (h : m < M) : (xs ++ symL v M).getD (n + (M - (m + 1))) 0 = symI (v / 2 ^ m) := by
  have h1 : (xs ++ symL v M).getD (n + (M - (m + 1))) 0 = (symL v M).getD (M - (m + 1)) 0 := by
    simp only [List.getD, ← hn]
    rw [List.getElem?_append_right (by omega), Nat.add_sub_cancel_left]
  rw [h1, putL_at _ _ _ (by omega)]
  have e : M - 1 - (M - (m + 1)) = m := by omega
  rw [e]
theorem put_start (xs : List Int) (v : Int) (M n : Nat) (hn : xs.length = n) : fillTo (xs ++ symL v M) n = xs ++ List.replicate M 0 := by
  subst hn
  simp [fillTo, symL_length]
theorem splice_front (xs : List Int) (M n : Nat) (hn : xs.length = n) : (splice ((madeCells #[.int .u8 0] (n + M)).toList) 0 (xs.map (Value.int .u8))).toArray = cellsOf .u8 (xs ++ List.replicate M 0) := by
  subst hn
  simp [splice, toList_madeCells_one, cellsOf]

theorem put_step (xs : List Int) (v : Int) (M j n : Nat) (hn : xs.length = n) (h : j < M) {wr : World} {g : Nat} {t : TypeId} (hB : Blk wr g t (cellsOf .u8 (fillTo (xs ++ symL v M) (n + (M - (j + 1)))))) :
    Blk (wr.setCell ⟨g, n + (M - (j + 1)), none⟩ (.int .u8 (symI (v / 2 ^ j)))) g t (cellsOf .u8 (fillTo (xs ++ symL v M) (n + (M - j)))) := by
  have := hB.set_ (n + (M - (j + 1))) (.int .u8 (symI (v / 2 ^ j)))
  rw [cellsOf_set, ← put_at xs v M j n hn h, fillTo_set _ _ (by rw [List.length_append, symL_length, hn]; omega)] at this
  rw [show n + (M - j) = n + (M - (j + 1)) + 1 by omega, ← put_at xs v M j n hn h]
  exact this
theorem put_cell (xs : List Int) (v : Int) (M j n : Nat) (hn : xs.length = n) (h : j < M) {wr : World} {g : Nat} {t : TypeId} (hB : Blk wr g t (cellsOf .u8 (fillTo (xs ++ symL v M) (n + (M - (j + 1)))))) :
    wr.cell? ⟨g, n + (M - (j + 1)), none⟩ = some (.int .u8 ((fillTo (xs ++ symL v M) (n + (M - (j + 1)))).getD (n + (M - (j + 1))) 0)) :=
  (hB.cell _).trans (cellsOf_at _ _ _ (by rw [fillTo_length _ _ (by rw [List.length_append, symL_length, hn]; omega), List.length_append, symL_length, hn]; omega))

end Go.Proofs.Ytpjcbfapkjipjaa
