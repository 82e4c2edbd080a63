/-
  A row of symbols of the call's own, that is written in place ('Own1'); what is made by append(nil, s..). No condition but those that are named.
-/
import Derived.Test.YtpjcbfapkjipjaaCa6
namespace Go.Proofs.Ytpjcbfapkjipjaa
open Go.RowKit Crc
set_option linter.unusedVariables false

/-- Block g holds these symbols first, and what else there is behind. -/
def Own1 (w : World) (g n : Nat) (xs : List Int) : Prop := xs.length = n ∧ ∃ cur, Blk w g 31 cur ∧ n ≤ cur.size ∧ cur.toList.take n = xs.map (Value.int .u8)
section
variable {w w' : World} {g n : Nat} {xs : List Int}
theorem Own1.len (h : Own1 w g n xs) : xs.length = n := h.1
theorem Own1.lt (h : Own1 w g n xs) : g < w.heap.size := by
  obtain ⟨_, cur, hB, _⟩ := h
  exact hB.lt
theorem Own1.on (h : Own1 w g n xs) (hb : Below w.heap.size w w') : Own1 w' g n xs := by
  obtain ⟨h0, cur, hB, h1, h2⟩ := h
  exact ⟨h0, cur, hB.on hb, h1, h2⟩
theorem Own1.but {b : Nat} {t : TypeId} {cs : Array Value} (h : Own1 w g n xs) (hk : But b w w') (hC : Blk w b t cs) (hne : 31 ≠ t) : Own1 w' g n xs := by
  obtain ⟨h0, cur, hB, h1, h2⟩ := h
  exact ⟨h0, cur, hB.but hk hC hne, h1, h2⟩
theorem Own1.far {b : Nat} (h : Own1 w g n xs) (hne : g ≠ b) (i : Nat) (v : Value) : Own1 (w.setCell ⟨b, i, none⟩ v) g n xs := by
  obtain ⟨h0, cur, hB, h1, h2⟩ := h
  exact ⟨h0, cur, hB.far (p := ⟨b, i, none⟩) hne v, h1, h2⟩
theorem Own1.cell (h : Own1 w g n xs) {j : Nat} (hj : j < n) : w.cell? ⟨g, j, none⟩ = some (.int .u8 (xs.getD j 0)) := by
  obtain ⟨h0, cur, hB, h1, h2⟩ := h
  rw [hB.cell]
  have e : (cur.toList.take n)[j]? = cur[j]? := by rw [List.getElem?_take_of_lt hj]; simp
  rw [← e, h2]
  simp [List.getD, h0, hj]
theorem Own1.frozen (h : Own1 w g n xs) (j : Nat) : w.frozen? ⟨g, j, none⟩ = false := by
  obtain ⟨h0, cur, hB, h1, h2⟩ := h
  exact hB.frozen j
theorem Own1.lies (h : Own1 w g n xs) : Lies .u8 w w.heap.size (some ⟨g, 0, none⟩) n xs :=
  ⟨h.1, fun _ => ⟨g, 0, rfl, h.lt, fun j hj => by rw [Nat.zero_add]; exact h.cell hj⟩⟩
theorem Own1.set (h : Own1 w g n xs) (j : Nat) (v : Int) : Own1 (w.setCell ⟨g, j, none⟩ (.int .u8 v)) g n (xs.set j v) := by
  obtain ⟨h0, cur, hB, h1, h2⟩ := h
  refine ⟨by simp [h0], _, hB.set_ j (.int .u8 v), by simpa using h1, ?_⟩
  rw [Array.toList_setIfInBounds, List.map_set, ← h2]
  by_cases hj : j < n
  · rw [List.take_set]
  · rw [List.take_set_of_le (by omega), List.set_eq_of_length_le (by simp; omega)]
/-- A row of one's own. -/
theorem own1_of {base c : Nat} {A : Option Addr} (h : w.ownsRow base 31 1 (.slice A n c) n (xs.map (Value.int .u8))) (hn : 0 < n) : ∃ g, A = some ⟨g, 0, none⟩ ∧ base ≤ g ∧ Own1 w g n xs ∧ n ≤ c := by
  obtain ⟨hl, h2⟩ := h
  rcases h2 with ⟨_, h0⟩ | ⟨g, cap, cur, hv, hb, hh, hnc, _, hcs, htk⟩
  · omega
  · injection hv with e1 e2 e3
    refine ⟨g, e1, hb, ⟨by simpa using hl, cur, hh, by omega, by simpa using htk⟩, by omega⟩
end
end Go.Proofs.Ytpjcbfapkjipjaa

