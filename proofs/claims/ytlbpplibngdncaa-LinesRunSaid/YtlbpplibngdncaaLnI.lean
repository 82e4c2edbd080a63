/-
  Where an element of a list lies, for lists of truths, texts, bytes, numbers, lists and lines; lists in memory as functions of a place ('Row'); how such lists that came in are opened. No condition.
-/
import Derived.Test.YtlbpplibngdncaaOpen
import Derived.Test.YtlbpplibngdncaaLst
import Derived.SliceStrings
namespace Go.Proofs.Ytlbpplibngdncaa
open Go.ChangeShapes Go.WideShapes Go.ChangeAt Go.RowKit

theorem elem1LinesI : Try.prog.underlying 53 = some (.slice (Try.prog.elem 53)) := by kernel_rfl
theorem size1LinesI (w : World) : (sizeOf (Try.prog.elem 53)).run Try.prog w = .ok 1 w := by kernel_rfl
theorem idx1LinesI {A : Option Addr} {n : Nat} (c : Nat) {k b off : Nat} (hA : A = some ⟨b, off, none⟩) (hk : k < n) (w : World) :
    (Instr.indexAt 53 (.slice A n c) (.int .i64 (k : Int))).run Try.prog w = .ok (.pointer (some ⟨b, off + k, none⟩)) w := by
  subst hA
  rw [run_indexAt_slice (h := elem1LinesI), if_pos (by omega), size1LinesI]
  simp [Result.andThen, Addr.add_lit]
theorem elem1Truths : Try.prog.underlying 56 = some (.slice (Try.prog.elem 56)) := by kernel_rfl
theorem size1Truths (w : World) : (sizeOf (Try.prog.elem 56)).run Try.prog w = .ok 1 w := by kernel_rfl
theorem idx1Truths {A : Option Addr} {n : Nat} (c : Nat) {k b off : Nat} (hA : A = some ⟨b, off, none⟩) (hk : k < n) (w : World) :
    (Instr.indexAt 56 (.slice A n c) (.int .i64 (k : Int))).run Try.prog w = .ok (.pointer (some ⟨b, off + k, none⟩)) w := by
  subst hA
  rw [run_indexAt_slice (h := elem1Truths), if_pos (by omega), size1Truths]
  simp [Result.andThen, Addr.add_lit]
theorem elem1Texts : Try.prog.underlying 64 = some (.slice (Try.prog.elem 64)) := by kernel_rfl
theorem size1Texts (w : World) : (sizeOf (Try.prog.elem 64)).run Try.prog w = .ok 1 w := by kernel_rfl
theorem idx1Texts {A : Option Addr} {n : Nat} (c : Nat) {k b off : Nat} (hA : A = some ⟨b, off, none⟩) (hk : k < n) (w : World) :
    (Instr.indexAt 64 (.slice A n c) (.int .i64 (k : Int))).run Try.prog w = .ok (.pointer (some ⟨b, off + k, none⟩)) w := by
  subst hA
  rw [run_indexAt_slice (h := elem1Texts), if_pos (by omega), size1Texts]
  simp [Result.andThen, Addr.add_lit]
theorem elem1Rows : Try.prog.underlying 22 = some (.slice (Try.prog.elem 22)) := by kernel_rfl
theorem size1Rows (w : World) : (sizeOf (Try.prog.elem 22)).run Try.prog w = .ok 1 w := by kernel_rfl
theorem idx1Rows {A : Option Addr} {n : Nat} (c : Nat) {k b off : Nat} (hA : A = some ⟨b, off, none⟩) (hk : k < n) (w : World) :
    (Instr.indexAt 22 (.slice A n c) (.int .i64 (k : Int))).run Try.prog w = .ok (.pointer (some ⟨b, off + k, none⟩)) w := by
  subst hA
  rw [run_indexAt_slice (h := elem1Rows), if_pos (by omega), size1Rows]
  simp [Result.andThen, Addr.add_lit]
theorem elem1Oct : Try.prog.underlying 55 = some (.slice (Try.prog.elem 55)) := by kernel_rfl
theorem size1Oct (w : World) : (sizeOf (Try.prog.elem 55)).run Try.prog w = .ok 1 w := by kernel_rfl
theorem idx1Oct {A : Option Addr} {n : Nat} (c : Nat) {k b off : Nat} (hA : A = some ⟨b, off, none⟩) (hk : k < n) (w : World) :
    (Instr.indexAt 55 (.slice A n c) (.int .i64 (k : Int))).run Try.prog w = .ok (.pointer (some ⟨b, off + k, none⟩)) w := by
  subst hA
  rw [run_indexAt_slice (h := elem1Oct), if_pos (by omega), size1Oct]
  simp [Result.andThen, Addr.add_lit]
theorem elem1Int : Try.prog.underlying 31 = some (.slice (Try.prog.elem 31)) := by kernel_rfl
theorem size1Int (w : World) : (sizeOf (Try.prog.elem 31)).run Try.prog w = .ok 1 w := by kernel_rfl
theorem idx1Int {A : Option Addr} {n : Nat} (c : Nat) {k b off : Nat} (hA : A = some ⟨b, off, none⟩) (hk : k < n) (w : World) :
    (Instr.indexAt 31 (.slice A n c) (.int .i64 (k : Int))).run Try.prog w = .ok (.pointer (some ⟨b, off + k, none⟩)) w := by
  subst hA
  rw [run_indexAt_slice (h := elem1Int), if_pos (by omega), size1Int]
  simp [Result.andThen, Addr.add_lit]
/-- A list's cells by their places. -/
def Row (w : World) (B : Nat) (A : Option Addr) (n : Nat) (f : Nat → Value) : Prop :=
  0 < n → ∃ b off, A = some ⟨b, off, none⟩ ∧ b < B ∧ ∀ j, j < n → w.cell? ⟨b, off + j, none⟩ = some (f j)
theorem Row.on {w w' : World} {A : Option Addr} {n : Nat} {f : Nat → Value} (h : Row w w.heap.size A n f) (hb : Below w.heap.size w w') : Row w' w'.heap.size A n f := fun hn => by
  obtain ⟨b, off, e, hlt, hc⟩ := h hn
  exact ⟨b, off, e, Nat.lt_of_lt_of_le hlt hb.size, fun j hj => (hb.cell hlt).trans (hc j hj)⟩
theorem Row.low {w w' : World} {B : Nat} {A : Option Addr} {n : Nat} {f : Nat → Value} (h : Row w B A n f) (hb : Below B w w') : Row w' B A n f := fun hn => by
  obtain ⟨b, off, e, hlt, hc⟩ := h hn
  exact ⟨b, off, e, hlt, fun j hj => (hb.cell hlt).trans (hc j hj)⟩
section
variable {H : Type} {enc : TypeId × Value → H} {P : Program} {W : World} {base : Nat} {t e : TypeId} {v : Value} {d : DataW H} {p : List MemPlace}
theorem open_row1 (ht : P.underlying t = some (.slice e)) (hc : P.cellsOf e = 1) (hv : Value.okWide P W .any base t v) (h : DataW.Trod enc P W 0 (fun _ => true) true t v d p) :
    ∃ (a : Option Addr) (n c : Nat), v = .slice a n c ∧ n ≤ maxLen ∧ (0 < n → ∃ b off, a = some ⟨b, off, none⟩ ∧ b < W.heap.size ∧ ∀ j, j < n → ∃ u fuel y, W.cell? ⟨b, off + j, none⟩ = some u ∧ DataW.trod enc P W 0 (fun _ => true) true fuel e [u] = some y) := by
  obtain ⟨a, n, c, rfl⟩ := okWide_slice ht hv
  obtain ⟨fuel, hf⟩ := h
  rcases DataW.trod_slice ht hf with ⟨h0, _⟩ | ⟨x, len, cap, elems, rest, m, _, h0, _, _, hl, hm, hlen, hel, _, _⟩
  · simp [Value.cells] at h0
    obtain ⟨rfl, rfl, rfl⟩ := h0
    exact ⟨none, 0, 0, rfl, by simp [maxLen], fun h => absurd h (by omega)⟩
  · simp [Value.cells] at h0
    obtain ⟨rfl, rfl, rfl⟩ := h0
    refine ⟨_, n, c, rfl, by omega, fun hn => ?_⟩
    have each : ∀ j, j < n → ∃ u fuel y, W.cell? (x.add j) = some u ∧ DataW.trod enc P W 0 (fun _ => true) true fuel e [u] = some y := by
      intro j hj
      have hj' : j < elems.length := by omega
      have h1 := hel j hj
      rw [List.getElem?_eq_getElem hj', hc, Nat.mul_one, Option.bind_eq_some_iff] at h1
      obtain ⟨cs', hcs, hy'⟩ := h1
      obtain ⟨u, rfl⟩ : ∃ u, cs' = [u] := by
        have hl1 := (World.cells?_some hcs).2.1
        match cs', hl1 with
        | [u], _ => exact ⟨u, rfl⟩
      have hu := cell_of_cells?_one hcs
      exact ⟨u, m, _, hu, hy'⟩
    obtain ⟨u, _, _, h0, _⟩ := each 0 (by omega)
    obtain ⟨b, off, spot⟩ := x
    have hspot : spot = none := by simpa [Addr.add] using World.cell?_spot h0
    subst hspot
    refine ⟨b, off, rfl, by simpa [Addr.add] using block_lt_of_cell h0, fun j hj => ?_⟩
    have := each j hj
    rwa [Addr.add_lit] at this
theorem open_truthrow (ht : P.underlying t = some (.slice e)) (he : P.underlying e = some .bool) (hc : P.cellsOf e = 1) (hv : Value.okWide P W .any base t v) (h : DataW.Trod enc P W 0 (fun _ => true) true t v d p) :
    ∃ (a : Option Addr) (n c : Nat) (bs : Nat → Bool), v = .slice a n c ∧ n ≤ maxLen ∧ Row W W.heap.size a n (fun j => .bool (bs j)) := by
  obtain ⟨a, n, c, rfl, hn, hr⟩ := open_row1 ht hc hv h
  rcases Nat.eq_zero_or_pos n with h0 | h0
  · exact ⟨a, n, c, fun _ => false, rfl, hn, fun q => absurd q (by omega)⟩
  obtain ⟨b, off, rfl, hlt, hall⟩ := hr h0
  have hx : ∀ j, ∃ x, j < n → W.cell? ⟨b, off + j, none⟩ = some (.bool x) := fun j => by
    by_cases hj : j < n
    · obtain ⟨u, f, y, hu, hy⟩ := hall j hj
      obtain ⟨x, hx, _⟩ := DataW.trod_bool he hy
      obtain rfl : u = .bool x := by simpa using hx
      exact ⟨x, fun _ => hu⟩
    · exact ⟨false, fun q => absurd q hj⟩
  exact ⟨_, n, c, fun j => Classical.choose (hx j), rfl, hn, fun _ => ⟨b, off, rfl, hlt, fun j hj => Classical.choose_spec (hx j) hj⟩⟩
theorem open_textrow (ht : P.underlying t = some (.slice e)) (he : P.underlying e = some .string) (hc : P.cellsOf e = 1) (hv : Value.okWide P W .any base t v) (h : DataW.Trod enc P W 0 (fun _ => true) true t v d p) :
    ∃ (a : Option Addr) (n c : Nat) (ss : Nat → ByteArray), v = .slice a n c ∧ n ≤ maxLen ∧ Row W W.heap.size a n (fun j => .string (ss j)) := by
  obtain ⟨a, n, c, rfl, hn, hr⟩ := open_row1 ht hc hv h
  rcases Nat.eq_zero_or_pos n with h0 | h0
  · exact ⟨a, n, c, fun _ => ByteArray.empty, rfl, hn, fun q => absurd q (by omega)⟩
  obtain ⟨b, off, rfl, hlt, hall⟩ := hr h0
  have hx : ∀ j, ∃ x, j < n → W.cell? ⟨b, off + j, none⟩ = some (.string x) := fun j => by
    by_cases hj : j < n
    · obtain ⟨u, f, y, hu, hy⟩ := hall j hj
      obtain ⟨x, hx, _⟩ := DataW.trod_string he hy
      obtain rfl : u = .string x := by simpa using hx
      exact ⟨x, fun _ => hu⟩
    · exact ⟨ByteArray.empty, fun q => absurd q hj⟩
  exact ⟨_, n, c, fun j => Classical.choose (hx j), rfl, hn, fun _ => ⟨b, off, rfl, hlt, fun j hj => Classical.choose_spec (hx j) hj⟩⟩
/-- A list of lists of integers: the lists' addresses, lengths, capacities and numbers, by their places. -/
structure RowL (k : IntKind) (w : World) (B : Nat) (A : Option Addr) (n : Nat) (ads : Nat → Option Addr) (ns cs : Nat → Nat) (xs : Nat → List Int) : Prop where
  row : Row w B A n (fun j => .slice (ads j) (ns j) (cs j))
  lies : ∀ j, j < n → Lies k w B (ads j) (ns j) (xs j)
  max : ∀ j, j < n → ns j ≤ maxLen
  fit : ∀ j, j < n → ∀ x ∈ xs j, (Lit.int k x).wf = true
theorem RowL.on {k : IntKind} {w w' : World} {A : Option Addr} {n : Nat} {ads : Nat → Option Addr} {ns cs : Nat → Nat} {xs : Nat → List Int} (h : RowL k w w.heap.size A n ads ns cs xs) (hb : Below w.heap.size w w') : RowL k w' w'.heap.size A n ads ns cs xs :=
  ⟨h.row.on hb, fun j hj => (h.lies j hj).on hb, h.max, h.fit⟩
theorem RowL.low {k : IntKind} {w w' : World} {B : Nat} {A : Option Addr} {n : Nat} {ads : Nat → Option Addr} {ns cs : Nat → Nat} {xs : Nat → List Int} (h : RowL k w B A n ads ns cs xs) (hb : Below B w w') : RowL k w' B A n ads ns cs xs :=
  ⟨h.row.low hb, fun j hj => (h.lies j hj).keep (Nat.le_refl _) (fun _ hp => hb.cell hp), h.max, h.fit⟩
theorem open_cell_ints {k : IntKind} {fuel : Nat} {y : DataW H × List MemPlace} (ht : P.underlying t = some (.slice e)) (he : P.underlying e = some (.int k)) (hc : P.cellsOf e = 1) (h : DataW.trod enc P W 0 (fun _ => true) true fuel t [v] = some y) :
    ∃ (a : Option Addr) (n c : Nat) (xs : List Int), v = .slice a n c ∧ Lies k W W.heap.size a n xs ∧ n ≤ maxLen ∧ ∀ x ∈ xs, (Lit.int k x).wf = true := by
  rcases open_ints ht he hc h with ⟨hcs, _⟩ | ⟨x, l, c', zs, hcs, _, hl, hm, hz, _, hcell, hwz⟩
  · simp at hcs
    subst hcs
    exact ⟨none, 0, 0, [], rfl, Lies.nil_, by simp [maxLen], fun _ h => by cases h⟩
  · simp at hcs
    subst hcs
    have hz' : zs.length = c' := by simpa using hz
    refine ⟨_, l, c', zs.take l, rfl, ⟨by simp; omega, fun hn => ?_⟩, by omega, fun y hy => hwz y (List.mem_of_mem_take hy)⟩
    have h0 := hcell 0 (by omega)
    obtain ⟨b, off, spot⟩ := x
    have hspot : spot = none := by simpa [Addr.add] using World.cell?_spot h0
    subst hspot
    refine ⟨b, off, rfl, by simpa [Addr.add] using block_lt_of_cell h0, fun j hj => ?_⟩
    have := hcell j (by omega)
    rw [Addr.add_lit] at this
    rw [this]
    have hj' : j < zs.length := by omega
    simp [List.getD, hj, hj']
theorem open_rows {k : IntKind} {f : TypeId} (ht : P.underlying t = some (.slice f)) (hf : P.underlying f = some (.slice e)) (he : P.underlying e = some (.int k)) (hcf : P.cellsOf f = 1) (hc : P.cellsOf e = 1) (hv : Value.okWide P W .any base t v)
    (h : DataW.Trod enc P W 0 (fun _ => true) true t v d p) :
    ∃ (a : Option Addr) (n c : Nat) (ads : Nat → Option Addr) (ns cs : Nat → Nat) (xs : Nat → List Int), v = .slice a n c ∧ n ≤ maxLen ∧ RowL k W W.heap.size a n ads ns cs xs := by
  obtain ⟨a, n, c, rfl, hn, hr⟩ := open_row1 ht hcf hv h
  rcases Nat.eq_zero_or_pos n with h0 | h0
  · exact ⟨a, n, c, fun _ => none, fun _ => 0, fun _ => 0, fun _ => [], rfl, hn, fun q => absurd q (by omega), fun j hj => absurd hj (by omega), fun j hj => absurd hj (by omega), fun j hj => absurd hj (by omega)⟩
  obtain ⟨b, off, rfl, hlt, hall⟩ := hr h0
  have hx : ∀ j, ∃ q : Option Addr × Nat × Nat × List Int, j < n → W.cell? ⟨b, off + j, none⟩ = some (.slice q.1 q.2.1 q.2.2.1) ∧ Lies k W W.heap.size q.1 q.2.1 q.2.2.2 ∧ q.2.1 ≤ maxLen ∧ ∀ x ∈ q.2.2.2, (Lit.int k x).wf = true := fun j => by
    by_cases hj : j < n
    · obtain ⟨u, f, y, hu, hy⟩ := hall j hj
      obtain ⟨a', n', c', xs', rfl, h1, h2, h3⟩ := open_cell_ints hf he hc hy
      exact ⟨(a', n', c', xs'), fun _ => ⟨hu, h1, h2, h3⟩⟩
    · exact ⟨(none, 0, 0, []), fun q => absurd q hj⟩
  exact ⟨_, n, c, fun j => (Classical.choose (hx j)).1, fun j => (Classical.choose (hx j)).2.1, fun j => (Classical.choose (hx j)).2.2.1, fun j => (Classical.choose (hx j)).2.2.2, rfl, hn,
    fun _ => ⟨b, off, rfl, hlt, fun j hj => (Classical.choose_spec (hx j) hj).1⟩, fun j hj => (Classical.choose_spec (hx j) hj).2.1, fun j hj => (Classical.choose_spec (hx j) hj).2.2.1, fun j hj => (Classical.choose_spec (hx j) hj).2.2.2⟩
end
end Go.Proofs.Ytlbpplibngdncaa
