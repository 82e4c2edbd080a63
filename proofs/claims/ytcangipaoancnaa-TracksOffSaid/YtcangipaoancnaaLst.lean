/-
  Plain facts on lists, and on blocks that are being filled. Nothing of the program is named here, no condition but those that are named.
-/
import Derived.Test.YtcangipaoancnaaMem
import Derived.Deep.QuietTactic
import Derived.BigQuiet
import Derived.WalkSpells
import Derived.WalkLawsBesides
import Derived.WalkSmall
import Derived.Laws.CopyOwn
namespace Go.Proofs.Ytcangipaoancnaa
open Go.RowKit

theorem getD_at (xs : List Int) (k : Nat) (h : k < xs.length) : xs.getD k 0 = xs[k] := by simp [List.getD, h]
theorem take_one (xs ys : List Int) (k : Nat) (h : k < xs.length) (h' : k < ys.length) (ht : xs.take k = ys.take k) (he : xs.getD k 0 = ys.getD k 0) : xs.take (k + 1) = ys.take (k + 1) := by
  rw [getD_at xs k h, getD_at ys k h'] at he
  rw [List.take_succ_eq_append_getElem h, List.take_succ_eq_append_getElem h', ht, he]

/-- A list that is being filled: the first k are there, the others are 0. -/
def fillTo (xs : List Int) (k : Nat) : List Int := xs.take k ++ List.replicate (xs.length - k) 0
theorem fillTo_length (xs : List Int) (k : Nat) (h : k ≤ xs.length) : (fillTo xs k).length = xs.length := by simp [fillTo]; omega
theorem fillTo_all (xs : List Int) (k : Nat) (h : xs.length ≤ k) : fillTo xs k = xs := by
  simp [fillTo, List.take_of_length_le h, Nat.sub_eq_zero_of_le h]
theorem fillTo_none (xs : List Int) : fillTo xs 0 = List.replicate xs.length 0 := by simp [fillTo]
theorem fillTo_set (xs : List Int) (k : Nat) (h : k < xs.length) : (fillTo xs k).set k (xs.getD k 0) = fillTo xs (k + 1) := by
  unfold fillTo
  rw [getD_at xs k h, List.take_succ_eq_append_getElem h, List.set_append_right _ _ (by simp; omega)]
  have e : xs.length - k = (xs.length - (k + 1)) + 1 := by omega
  rw [e, List.replicate_succ]
  have e2 : k - (xs.take k).length = 0 := by simp; omega
  rw [e2, List.set_cons_zero, List.append_assoc]
  rfl
theorem cellsOf_made (n : Nat) : madeCells #[.int .u8 0] n = cellsOf .u8 (List.replicate n 0) := by
  apply Array.toList_inj.1
  rw [toList_madeCells_one]
  simp [cellsOf]

theorem made_size (x : Value) (n : Nat) : (madeCells #[x] n).size = n := by simp [madeCells]
theorem splice_whole {α : Type} (L cs : List α) (h : cs.length = L.length) : splice L 0 cs = cs := by simp [splice, h]
/-- A new list whose block bears a mark (a constant text's bytes). -/
theorem Lies.newM (w : World) (t : TypeId) (k : IntKind) (xs : List Int) (n : Nat) (hn : xs.length = n) (fr : Nat × Nat) :
    Lies k (w.alloc (.cells (cellsOf k xs) t fr)) (w.alloc (.cells (cellsOf k xs) t fr)).heap.size (some ⟨w.heap.size, 0, none⟩) n xs :=
  ⟨hn, fun _ => ⟨w.heap.size, 0, rfl, by simp, fun j hj => by
    have h : (w.alloc (.cells (cellsOf k xs) t fr)).heap[w.heap.size]? = some (.cells (cellsOf k xs) t fr) := by
      show (w.heap.push _)[w.heap.size]? = _
      simp
    rw [Nat.zero_add]
    exact (cell_of_row _ _ _ _ _ _ h).trans (cellsOf_at k xs j (by omega))⟩⟩
/-- Where a list's part lies. -/
def cutA (A : Option Addr) (c l : Nat) : Option Addr := if c = l then A else A.map (·.add l)
theorem Lies.part {k : IntKind} {w : World} {B n c l h : Nat} {A : Option Addr} {xs : List Int} (hx : Lies k w B A n xs) (h1 : l ≤ h) (h2 : h ≤ n) (h3 : n ≤ c) : Lies k w B (cutA A c l) (h - l) ((xs.drop l).take (h - l)) := by
  have hl := hx.len
  refine ⟨by simp; omega, fun h0 => ?_⟩
  obtain ⟨b, off, rfl, hb, hc⟩ := hx.at_ (by omega)
  refine ⟨b, off + l, ?_, hb, fun j hj => ?_⟩
  · rw [cutA, if_neg (by omega)]; simp [Addr.add]
  · rw [Nat.add_assoc, hc (l + j) (by omega)]
    simp only [List.getD]
    rw [List.getElem?_take_of_lt hj, List.getElem?_drop]
theorem Lies.head {k : IntKind} {w : World} {B n h : Nat} {A : Option Addr} {xs : List Int} (hx : Lies k w B A n xs) (h2 : h ≤ n) : Lies k w B A h (xs.take h) := by
  have hl := hx.len
  refine ⟨by simp; omega, fun h0 => ?_⟩
  obtain ⟨b, off, rfl, hb, hc⟩ := hx.at_ (by omega)
  refine ⟨b, off, rfl, hb, fun j hj => ?_⟩
  rw [hc j (by omega)]
  simp only [List.getD]
  rw [List.getElem?_take_of_lt hj]
theorem Lies.tail {k : IntKind} {w : World} {B n c l : Nat} {A : Option Addr} {xs : List Int} (hx : Lies k w B A n xs) (h1 : l ≤ n) (h3 : n ≤ c) : Lies k w B (cutA A c l) (n - l) (xs.drop l) := by
  have h := hx.part (c := c) h1 (Nat.le_refl n) h3
  have hl := hx.len
  rw [List.take_of_length_le (by simp; omega)] at h
  exact h
end Go.Proofs.Ytcangipaoancnaa

