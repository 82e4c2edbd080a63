/-
  Wires as they lie in memory: the map of lines by links, what each link was given, the wires' own block; memory where a stretch of blocks alone is written ('Span'). No condition but those that are named.
-/
import Derived.Test.YtgmoifbncijhdaaDoorLn2
import Derived.Test.YtgmoifbncijhdaaDoorRgLives
import Derived.Maps.Keyed
import Derived.Carry
import Derived.WalkArith
import Derived.Laws.CopyRow
import Derived.Laws.MakeOwn
namespace Go.Proofs.YtgmoifbncijhdaaDoor
open Go.RowKit
set_option linter.unusedVariables false

/-- From w on: all but the blocks from b0 up to b1 of what was there in w stays. -/
def Span (b0 b1 : Nat) (w w' : World) : Prop := Below b0 w w' ∧ ∀ b, b < w.heap.size → (b < b0 ∨ b1 ≤ b) → w'.heap[b]? = w.heap[b]?
section
variable {b0 b1 : Nat} {a b c w w' : World}
theorem Span.refl (b0 b1 : Nat) (w : World) : Span b0 b1 w w := ⟨Below.refl _ _, fun _ _ _ => rfl⟩
theorem Span.trans (h : Span b0 b1 a b) (k : Span b0 b1 b c) : Span b0 b1 a c := ⟨h.1.trans k.1, fun x hx hn => (k.2 x (Nat.lt_of_lt_of_le hx h.1.size) hn).trans (h.2 x hx hn)⟩
theorem Span.blk {x : Nat} {t : TypeId} {cs : Array Value} (h : Span b0 b1 w w') (hB : Blk w x t cs) (hx : x < b0 ∨ b1 ≤ x) : Blk w' x t cs := (h.2 x hB.lt hx).trans hB
theorem Span.grow (h0 : b0 ≤ w.heap.size) (h : Below w.heap.size w w') : Span b0 b1 w w' := ⟨h.mono h0, fun x hx _ => h.block x hx⟩
theorem Span.but {g : Nat} (h : But g w w') (h0 : b0 ≤ g) (h1 : g < b1) : Span b0 b1 w w' := ⟨h.1.mono h0, fun x hx hn => h.2 x hx (by omega)⟩
theorem Span.low {B : Nat} (h : Span b0 b1 w w') (hB : B ≤ b0) : Below B w w' := h.1.mono hB
theorem Span.size (h : Span b0 b1 w w') : w.heap.size ≤ w'.heap.size := h.1.size
theorem Span.on {w'' : World} (h : Span b0 b1 w w') (h0 : b0 ≤ w.heap.size) (k : Below w'.heap.size w' w'') : Span b0 b1 w w'' := h.trans (Span.grow (Nat.le_trans h0 h.size) k)
theorem Span.cell {p : Addr} (h : Span b0 b1 w w') (hp : p.block < w.heap.size) (hx : p.block < b0 ∨ b1 ≤ p.block) : w'.cell? p = w.cell? p := by
  simp only [World.cell?, h.2 p.block hp hx]
theorem Span.row {g : Nat} {u : World} {t : TypeId} {cs cs' : Array Value} (hB : Blk u g t cs) (h0 : b0 ≤ g) (h1 : g < b1) : Span b0 b1 u (u.setRow g cs') := by
  have hs : (u.setRow g cs').heap.size = u.heap.size := by simp [World.setRow]
  exact ⟨⟨rfl, rfl, rfl, Nat.le_of_eq hs.symm, fun x hx => setRow_other u g x cs' (by omega)⟩, fun x _ hn => setRow_other u g x cs' (by omega)⟩
end
theorem Blk.row {u : World} {g : Nat} {t : TypeId} {cs cs' : Array Value} (hB : Blk u g t cs) : Blk (u.setRow g cs') g t cs' := setRow_heap u g cs cs' t (0, 0) hB
theorem Blk.rowFar {u : World} {g x : Nat} {t : TypeId} {cs cs' : Array Value} (hB : Blk u x t cs) (hx : x ≠ g) : Blk (u.setRow g cs') x t cs := (setRow_other u g x cs' hx).trans hB

/-- A map's entries: of each number from 0 on a pointer to a block. -/
def entW (ps : List Nat) : List MapEntry := (List.range ps.length).map fun (i : Nat) => ⟨.int .i64 (i : Int), .pointer (some ⟨ps.getD i 0, 0, none⟩), i⟩
theorem entW_len (ps : List Nat) : (entW ps).length = ps.length := by simp [entW]
theorem entW_snoc (ps : List Nat) (g : Nat) : entW (ps ++ [g]) = entW ps ++ [⟨.int .i64 (ps.length : Int), .pointer (some ⟨g, 0, none⟩), ps.length⟩] := by
  unfold entW
  rw [List.length_append, List.length_singleton, List.range_succ, List.map_append, List.map_singleton]
  congr 1
  · apply List.map_congr_left
    intro i hi
    rw [List.mem_range] at hi
    simp [List.getD, List.getElem?_append_left hi]
  · simp [List.getD]
theorem entW_mem {ps : List Nat} {e : MapEntry} (h : e ∈ entW ps) : ∃ i, i < ps.length ∧ e = ⟨.int .i64 (i : Int), .pointer (some ⟨ps.getD i 0, 0, none⟩), i⟩ := by
  simp only [entW, List.mem_map, List.mem_range] at h
  obtain ⟨i, hi, rfl⟩ := h
  exact ⟨i, hi, rfl⟩
/-- The block m is just this map. -/
def MapW (w : World) (m : Nat) (ps : List Nat) : Prop := w.heap[m]? = some (.map (entW ps).toArray ps.length)
theorem MapW.lt {w : World} {m : Nat} {ps : List Nat} (h : MapW w m ps) : m < w.heap.size := (Array.getElem?_eq_some_iff.1 h).1
theorem MapW.below {w w' : World} {B m : Nat} {ps : List Nat} (h : MapW w m ps) (hb : Below B w w') (hm : m < B) : MapW w' m ps := (hb.block m hm).trans h
theorem MapW.on {w w' : World} {m : Nat} {ps : List Nat} (h : MapW w m ps) (hb : Below w.heap.size w w') : MapW w' m ps := h.below hb h.lt
theorem MapW.but {w w' : World} {g m : Nat} {ps : List Nat} (h : MapW w m ps) (hb : But g w w') (hm : m ≠ g) : MapW w' m ps := (hb.2 m h.lt hm).trans h
theorem MapW.row {w : World} {g m : Nat} {ps : List Nat} {cs : Array Value} (h : MapW w m ps) (hm : m ≠ g) : MapW (w.setRow g cs) m ps := (setRow_other w g m cs hm).trans h
theorem MapW.ne {w : World} {g m : Nat} {ps : List Nat} {t : TypeId} {cs : Array Value} (h : MapW w m ps) (hB : Blk w g t cs) : m ≠ g := by
  rintro rfl
  unfold MapW at h; unfold Blk at hB
  rw [h] at hB; cases hB
theorem MapW.new (w : World) : MapW (w.alloc (.map #[] 0)) w.heap.size [] := (MapKept.heap_alloc w (.map #[] 0)).1
theorem keyI : Maps.Keyed Tryd.prog 3 := Maps.int_keyed Tryd.underlying3
theorem keyOfI {k : Int} (h : -9223372036854775808 ≤ k ∧ k ≤ 9223372036854775807) : keyOf Tryd.prog 3 (.int .i64 k) = some (.int .i64 k) := Maps.keyOf_int_mk Tryd.underlying3 (WalkArith.wf_i64 h)
theorem keysW {ps : List Nat} (hl : ps.length ≤ 64) : ∀ e ∈ entW ps, ∃ l, keyOf Tryd.prog 3 e.key = some l := by
  intro e he
  obtain ⟨i, hi, rfl⟩ := entW_mem he
  exact ⟨_, keyOfI (by omega)⟩
theorem zeroLine (w : World) : (zeroValue 70).run Tryd.prog w = .ok (.pointer none) w := by kernel_rfl
/-- What a map gives at a number: the pointer to its block. -/
theorem look_in {w : World} {m : Nat} {ps : List Nat} (h : MapW w m ps) (hl : ps.length ≤ 64) {i : Nat} (hi : i < ps.length) :
    (Instr.lookup 49 (.map (some m)) (.int .i64 (i : Int)) false).run Tryd.prog w = .ok (.pointer (some ⟨ps.getD i 0, 0, none⟩)) w := by
  have hk := keyOfI (k := (i : Int)) (by omega)
  rcases keyI.find w hk (entW ps) (keysW hl) with ⟨_, h2⟩ | ⟨j, e, h1, h2, h3⟩
  · exfalso
    exact h2 ⟨.int .i64 (i : Int), .pointer (some ⟨ps.getD i 0, 0, none⟩), i⟩ (by simp only [entW, List.mem_map, List.mem_range]; exact ⟨i, hi, rfl⟩) rfl
  · obtain ⟨q, hq, rfl⟩ := entW_mem (List.mem_of_getElem? h2)
    have e1 : (q : Int) = (i : Int) := by simpa using h3
    obtain rfl : q = i := by omega
    simp [Instr.lookup, run_underlying Tryd.underlying49, MapKept.run_getObj_map h, keyI.check w _ hk, h1, Result.andThen]
/-- .. and where there is none: no pointer. -/
theorem look_out {w : World} {m : Nat} {ps : List Nat} (h : MapW w m ps) (hl : ps.length ≤ 64) {k : Int} (hb : -9223372036854775808 ≤ k ∧ k ≤ 9223372036854775807) (hi : k < 0 ∨ (ps.length : Int) ≤ k) :
    (Instr.lookup 49 (.map (some m)) (.int .i64 k) false).run Tryd.prog w = .ok (.pointer none) w := by
  have hk := keyOfI hb
  rcases keyI.find w hk (entW ps) (keysW hl) with ⟨h1, _⟩ | ⟨j, e, h1, h2, h3⟩
  · simp [Instr.lookup, run_underlying Tryd.underlying49, MapKept.run_getObj_map h, keyI.check w _ hk, h1, Result.andThen]
  · exfalso
    obtain ⟨q, hq, rfl⟩ := entW_mem (List.mem_of_getElem? h2)
    have e1 : (q : Int) = k := by simpa using h3
    omega
theorem look_nil (w : World) {k : Int} (hb : -9223372036854775808 ≤ k ∧ k ≤ 9223372036854775807) :
    (Instr.lookup 49 (.map none) (.int .i64 k) false).run Tryd.prog w = .ok (.pointer none) w := by
  have hk := keyOfI hb
  have h1 : (Instr.findKey 3 (.int .i64 k) []).run Tryd.prog w = .ok none w := by
    rcases keyI.find w hk [] (fun _ h => by cases h) with ⟨h1, _⟩ | ⟨j, e, _, h2, _⟩
    · exact h1
    · simp at h2
  simp [Instr.lookup, run_underlying Tryd.underlying49, keyI.check w _ hk, h1, Result.andThen]
/-- One entry more. -/
theorem map_put {w : World} {m : Nat} {ps : List Nat} (h : MapW w m ps) (hl : ps.length ≤ 64) (g : Nat) :
    ∃ w', (Instr.mapUpdate 49 (.map (some m)) (.int .i64 (ps.length : Int)) (.pointer (some ⟨g, 0, none⟩))).run Tryd.prog w = .ok () w' ∧ MapW w' m (ps ++ [g]) ∧ But m w w' := by
  have hk := keyOfI (k := (ps.length : Int)) (by omega)
  rcases keyI.find w hk (entW ps) (keysW hl) with ⟨h1, _⟩ | ⟨j, e, h1, h2, h3⟩
  · refine ⟨{ w with heap := w.heap.setIfInBounds m (.map (entW (ps ++ [g])).toArray (ps ++ [g]).length) }, ?_, ?_, ⟨⟨rfl, rfl, rfl, by simp, fun x hx => ?_⟩, fun x _ hx => ?_⟩⟩
    · rw [entW_snoc]
      simp [Instr.mapUpdate, run_underlying Tryd.underlying49, MapKept.run_getObj_map h, keyI.check w _ hk, h1, MapKept.run_setObj_map _ h, Result.andThen]
    · show (w.heap.setIfInBounds m _)[m]? = _
      rw [Array.getElem?_setIfInBounds_self_of_lt h.lt]
    · exact Array.getElem?_setIfInBounds_ne (by omega)
    · exact Array.getElem?_setIfInBounds_ne (fun e => hx e.symm)
  · exfalso
    obtain ⟨q, hq, rfl⟩ := entW_mem (List.mem_of_getElem? h2)
    have e1 : (q : Int) = (ps.length : Int) := by simpa using h3
    omega
theorem len_mapW {w : World} {m : Nat} {ps : List Nat} (h : MapW w m ps) (ty : TypeId) : (Builtin.len_ #[49] ty #[.map (some m)]).run Tryd.prog w = .ok (.int .i64 (ps.length : Int)) w := by
  simp [Builtin.len_, run_underlying Tryd.underlying49, MapKept.run_getObj_map h, goInt, entW_len]
theorem neq_map_yes (m : Nat) (w : World) : (binOp .neq 49 (.map (some m)) (.map none)).run Tryd.prog w = .ok (.bool true) w := by
  kernel_rfl
theorem neq_map_no (w : World) : (binOp .neq 49 (.map none) (.map none)).run Tryd.prog w = .ok (.bool false) w := by
  kernel_rfl

/-- The cells of what k links were given. -/
def gfC (G : Nat → Option Int) (k : Nat) : List Value := (List.range k).flatMap fun i => [.int .i64 ((G i).getD 0), .bool (G i).isSome]
theorem gfC_succ (G : Nat → Option Int) (k : Nat) : gfC G (k + 1) = gfC G k ++ [.int .i64 ((G k).getD 0), .bool (G k).isSome] := by
  simp [gfC, List.range_succ]
theorem gfC_len (G : Nat → Option Int) : ∀ k, (gfC G k).length = k * 2 := by
  intro k
  induction k with
  | zero => rfl
  | succ k ih => rw [gfC_succ, List.length_append, ih]; simp; omega
theorem gfC_at (G : Nat → Option Int) {j : Nat} : ∀ k, j < k → (gfC G k)[j * 2]? = some (.int .i64 ((G j).getD 0)) ∧ (gfC G k)[j * 2 + 1]? = some (.bool (G j).isSome) := by
  intro k
  induction k with
  | zero => intro h; omega
  | succ k ih =>
    intro h
    have hl := gfC_len G k
    rw [gfC_succ]
    by_cases e : j = k
    · subst e
      rw [List.getElem?_append_right (by omega), List.getElem?_append_right (by omega), hl, Nat.sub_self, show j * 2 + 1 - j * 2 = 1 by omega]
      exact ⟨rfl, rfl⟩
    · rw [List.getElem?_append_left (by omega), List.getElem?_append_left (by omega)]
      exact ih (by omega)
theorem gfC_cell {w : World} {a k : Nat} {G : Nat → Option Int} (h : Blk w a 69 (gfC G k).toArray) {j : Nat} (hj : j < k) :
    w.cell? ⟨a, j * 2, none⟩ = some (.int .i64 ((G j).getD 0)) ∧ w.cell? ⟨a, j * 2 + 1, none⟩ = some (.bool (G j).isSome) := by
  rw [h.cell, h.cell]
  simpa using gfC_at G k hj
/-- One value of a function of links put in place of another one. -/
def upd (G : Nat → Option Int) (i : Nat) (o : Option Int) : Nat → Option Int := fun j => if j = i then o else G j
theorem two_ext {l l' : List Value} {k : Nat} (h1 : l.length = k * 2) (h2 : l'.length = k * 2) (h : ∀ j, j < k → l[j * 2]? = l'[j * 2]? ∧ l[j * 2 + 1]? = l'[j * 2 + 1]?) : l = l' := by
  apply List.ext_getElem?
  intro p
  by_cases hp : p < k * 2
  · have hj : p / 2 < k := by omega
    have := h (p / 2) hj
    have e : p = p / 2 * 2 ∨ p = p / 2 * 2 + 1 := by omega
    rcases e with e | e
    · rw [e]; exact this.1
    · rw [e]; exact this.2
  · rw [List.getElem?_eq_none (by omega), List.getElem?_eq_none (by omega)]
theorem gfC_set (G : Nat → Option Int) {j k : Nat} (o : Option Int) (hj : j < k) :
    ((gfC G k).toArray.setIfInBounds (j * 2) (.int .i64 (o.getD 0))).setIfInBounds (j * 2 + 1) (.bool o.isSome) = (gfC (upd G j o) k).toArray := by
  rw [List.setIfInBounds_toArray, List.setIfInBounds_toArray]
  congr 1
  refine two_ext (k := k) (by simp [gfC_len]) (gfC_len _ _) fun q hq => ?_
  obtain ⟨a1, a2⟩ := gfC_at G k hq
  obtain ⟨c1, c2⟩ := gfC_at (upd G j o) k hq
  have hl := gfC_len G k
  rw [c1, c2]
  by_cases e : q = j
  · subst e
    simp [List.getElem?_set, hl, upd]
    omega
  · have e1 : j * 2 ≠ q * 2 := by omega
    have e2 : j * 2 + 1 ≠ q * 2 + 1 := by omega
    have e3 : j * 2 ≠ q * 2 + 1 := by omega
    have e4 : j * 2 + 1 ≠ q * 2 := by omega
    rw [List.getElem?_set_ne e4, List.getElem?_set_ne e1, List.getElem?_set_ne e2, List.getElem?_set_ne e3, a1, a2]
    simp [upd, e]
theorem gfC_none {l : List Value} {k : Nat} (hl : l.length = k * 2) (h : ∀ p, p < k * 2 → l[p]? = some (if p % 2 = 0 then .int .i64 0 else .bool false)) : l = gfC (fun _ => none) k := by
  refine two_ext hl (gfC_len _ _) fun j hj => ?_
  obtain ⟨c1, c2⟩ := gfC_at (fun _ => none) k hj
  rw [h _ (by omega), h _ (by omega), c1, c2, if_pos (by omega), if_neg (by omega)]
  exact ⟨rfl, rfl⟩
theorem infoGf : (Tryd.prog.info? 69).map (fun i => (i.zero, i.size, i.bytes)) = some (some (.agg #[.int .i64 0, .bool false]), 2, 16) := by kernel_rfl
theorem two_at (p : Nat) : (#[.int .i64 0, .bool false] : Array Value)[p % 2]! = if p % 2 = 0 then .int .i64 0 else .bool false := by
  have h : p % 2 = 0 ∨ p % 2 = 1 := by omega
  rcases h with h | h <;> rw [h] <;> rfl
/-- make([]gift, n). -/
theorem makeGf (k : Nat) (h1 : k ≤ 64) (u : World) :
    (Instr.makeSlice 50 (.int .i64 (k : Int)) (.int .i64 (k : Int))).run Tryd.prog u = .ok (.slice (some ⟨u.heap.size, 0, none⟩) k k) (u.alloc (.cells (gfC (fun _ => none) k).toArray 69)) := by
  obtain ⟨i0, hi0, hz0, hz1, hz2⟩ := info_parts infoGf
  have h := run_make (P := Tryd.prog) u 50 69 i0 _ Tryd.underlying50 hi0 hz0 .i64 .i64 (k : Int) (k : Int) (by omega) (Int.le_refl _) (by rw [hz2]; omega) (by omega)
  have e : madeCells (Value.agg #[.int .i64 0, .bool false]).cells (k * 2) = (gfC (fun _ => none) k).toArray := by
    apply Array.toList_inj.1
    refine gfC_none (by simp [madeCells]) fun p hp => ?_
    simp only [madeCells, Value.cells, Array.toList_map, List.getElem?_map, Array.getElem?_toList, List.size_toArray, List.length_cons, List.length_nil, Nat.zero_add, Nat.reduceAdd]
    rw [Array.getElem?_range, if_pos hp, Option.map_some, two_at]
  rw [hz1] at h
  simpa [e] using h
theorem zeroGf (w : World) : (zeroValue 69).run Tryd.prog w = .ok (.agg #[.int .i64 0, .bool false]) w := by kernel_rfl
/-- clear of what the links were given. -/
theorem clearGf {u : World} {a k : Nat} {cs : List Value} (hB : Blk u a 69 cs.toArray) (hl : cs.length = k * 2) (hk : 0 < k) (c : Nat) (ty : TypeId) :
    (Builtin.clear_ #[50] ty #[.slice (some ⟨a, 0, none⟩) k c]).run Tryd.prog u = .ok (.tuple #[]) (u.setRow a (gfC (fun _ => none) k).toArray) := by
  have hzc : (Builtin.zeroCells (Value.agg #[.int .i64 0, .bool false]).cells k).toList = gfC (fun _ => none) k := by
    refine gfC_none (by simp [Builtin.zeroCells, Value.cells]) fun p hp => ?_
    simp only [Builtin.zeroCells, Value.cells, Array.toList_map, List.getElem?_map, Array.getElem?_toList, List.size_toArray, List.length_cons, List.length_nil, Nat.zero_add, Nat.reduceAdd]
    rw [Array.getElem?_range, if_pos hp, Option.map_some, two_at]
  have hst := run_storeCells_at Tryd.prog a 0 69 (gfC (fun _ => none) k) 0 cs.toArray u hB (by simp [gfC_len, hl]) (by
    intro v hv
    simp only [gfC, List.mem_flatMap] at hv
    obtain ⟨o, _, ho⟩ := hv
    simp only [List.mem_cons, List.not_mem_nil, or_false] at ho
    rcases ho with rfl | rfl <;> rfl)
  have hd : cs.drop (gfC (fun _ => none) k).length = [] := by rw [List.drop_eq_nil_iff, gfC_len, hl]; exact Nat.le_refl _
  simp only [Nat.zero_add, Nat.add_zero, List.take_zero, List.nil_append, hd, List.append_nil] at hst
  obtain ⟨m, rfl⟩ : ∃ m, k = m + 1 := ⟨k - 1, by omega⟩
  simp [Builtin.clear_, run_underlying Tryd.underlying50, hzc, hst]
end Go.Proofs.YtgmoifbncijhdaaDoor
