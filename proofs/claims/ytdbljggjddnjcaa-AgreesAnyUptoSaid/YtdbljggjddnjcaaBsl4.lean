/-
  A list of four elements of many cells, made of them. No condition but those that are named; nothing of the program is named here.
-/
import Derived.Test.YtdbljggjddnjcaaOwF
namespace Go.Proofs.Ytdbljggjddnjcaa
open Go.RowKit
set_option linter.unusedVariables false
set_option linter.unusedSimpArgs false

theorem fill_four (size : Nat) (x0 x1 x2 x3 z : List Value) (h0 : x0.length = size) (h1 : x1.length = size) (h2 : x2.length = size) (h3 : x3.length = size) (hz : z.length = size) :
    Instr.fill (fun i => some (i * size, size)) (z ++ (z ++ (z ++ z))).toArray [(0, .agg x0.toArray), (1, .agg x1.toArray), (2, .agg x2.toArray), (3, .agg x3.toArray)] = some (x0 ++ (x1 ++ (x2 ++ x3))).toArray := by
  have e1 := fill_cons (fun i => some (i * size, size)) 0 0 x0 z [] (z ++ (z ++ z)) [(1, .agg x1.toArray), (2, .agg x2.toArray), (3, .agg x3.toArray)] (by simp [h0]) (by omega) rfl
  have e2 := fill_cons (fun i => some (i * size, size)) 1 size x1 z x0 (z ++ z) [(2, .agg x2.toArray), (3, .agg x3.toArray)] (by simp [h1]) (by omega) h0
  have e3 := fill_cons (fun i => some (i * size, size)) 2 (2 * size) x2 z (x0 ++ x1) z [(3, .agg x3.toArray)] (by simp [h2]) (by omega) (by simp [h0, h1]; omega)
  have e4 := fill_cons (fun i => some (i * size, size)) 3 (3 * size) x3 z (x0 ++ (x1 ++ x2)) [] [] (by simp [h3]) (by omega) (by simp [h0, h1, h2]; omega)
  simp only [List.nil_append, List.append_nil, List.append_assoc] at e1 e2 e3 e4
  rw [e1, e2, e3, e4]; rfl
theorem range_cons (z : List Value) (n size : Nat) (h : z.length = size) (h0 : 0 < size) : ((List.range ((n + 1) * size)).map fun i => z.toArray[i % z.toArray.size]!) = ((List.range (n * size)).map fun i => z.toArray[i % z.toArray.size]!) ++ z := by
  subst h
  rw [Nat.succ_mul, List.range_add, List.map_append]
  congr 1
  apply List.ext_getElem
  · simp
  · intro i h1 h2
    have hm : (n * z.length + i) % z.length = i := by rw [Nat.mul_comm, Nat.mul_add_mod, Nat.mod_eq_of_lt h2]
    simp [hm]
    rw [List.getElem?_eq_getElem h2]; rfl
theorem range_four (z : List Value) (size : Nat) (h : z.length = size) (h0 : 0 < size) : ((Array.range (4 * size)).map (z.toArray[· % z.toArray.size]!)) = (z ++ (z ++ (z ++ z))).toArray := by
  apply Array.toList_inj.1
  rw [Array.toList_map, Array.toList_range]
  rw [show (4 : Nat) * size = (3 + 1) * size from rfl, range_cons z 3 size h h0, show (3 : Nat) * size = (2 + 1) * size from rfl, range_cons z 2 size h h0, show (2 : Nat) * size = (1 + 1) * size from rfl, range_cons z 1 size h h0, show (1 : Nat) * size = (0 + 1) * size from rfl, range_cons z 0 size h h0]
  simp
section
variable {P : Program} (w : World) (t e : TypeId) (i : TypeInfo) (z : List Value) (size : Nat) (ht : P.underlying t = some (.slice e)) (hi : P.info? e = some i) (hz : i.zero = some (.agg z.toArray)) (hs : i.size = size) (hzl : z.length = size) (h0 : 0 < size) (hm : 4 * size ≤ 16777216)
include ht hi hz hs hzl h0 hm
theorem run_bsl_four (a b c d : List Value) (ha : a.length = size) (hb : b.length = size) (hc : c.length = size) (hd : d.length = size) : (Instr.buildSlice t 4 #[(0, .agg a.toArray), (1, .agg b.toArray), (2, .agg c.toArray), (3, .agg d.toArray)]).run P w = .ok (.slice (some ⟨w.heap.size, 0, none⟩) 4 4) (w.alloc (.cells (a ++ (b ++ (c ++ d))).toArray e)) := by
  subst hs
  have hf := fill_four i.size a b c d z ha hb hc hd hzl
  have hr := range_four z i.size hzl h0
  simp at hr hf
  simp [Instr.buildSlice, run_underlying ht, sizeOf, typeInfo, zeroValue, hi, hz, Result.andThen, Value.cells, newRow, hr, hf, show ¬ 16777216 < 4 * i.size by omega, show ¬ 4 * i.size = 0 by omega]
end
end Go.Proofs.Ytdbljggjddnjcaa

