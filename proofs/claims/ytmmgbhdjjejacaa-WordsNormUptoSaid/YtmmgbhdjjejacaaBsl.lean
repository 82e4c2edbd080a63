/-
  Slices that are built of values of many cells. Nothing of the program is named here; no condition but those that are named.
-/
import Derived.Test.YtmmgbhdjjejacaaRegM
namespace Go.Proofs.Ytmmgbhdjjejacaa
open Go.RowKit

theorem fold_mid : ∀ (new old P S : List Value) (off k : Nat), new.length = old.length → P.length = off + k →
    ((new.zipIdx k).foldl (fun (cs : Array Value) (x : Value × Nat) => cs.setIfInBounds (off + x.2) x.1) (P ++ (old ++ S)).toArray) = (P ++ (new ++ S)).toArray
  | [], old, P, S, off, k, hl, hp => by
    obtain rfl : old = [] := List.length_eq_zero_iff.1 hl.symm
    rfl
  | v :: r, [], P, S, off, k, hl, hp => by simp at hl
  | v :: r, u :: r', P, S, off, k, hl, hp => by
    rw [List.zipIdx_cons, List.foldl_cons, List.setIfInBounds_toArray, List.set_append_right _ _ (by omega), hp, Nat.sub_self]
    have := fold_mid r r' (P ++ [v]) S off (k + 1) (by simpa using hl) (by simp; omega)
    simpa using this
theorem fill_cons (place : Nat → Option (Nat × Nat)) (i off : Nat) (new old P S : List Value) (rest : List (Nat × Value)) (hp : place i = some (off, new.length)) (hl : new.length = old.length) (ho : P.length = off) :
    Instr.fill place (P ++ (old ++ S)).toArray ((i, .agg new.toArray) :: rest) = Instr.fill place (P ++ (new ++ S)).toArray rest := by
  have h := fold_mid new old P S off 0 hl (by omega)
  simp only [Instr.fill, hp, Value.cells, List.size_toArray, List.length_append]
  rw [if_neg (by simp; omega)]
  congr 1
  rw [← h, ← Array.foldl_toList]
  simp
theorem fill_one (size : Nat) (new old : List Value) (hn : new.length = size) (hl : old.length = size) :
    Instr.fill (fun i => some (i * size, size)) old.toArray [(0, .agg new.toArray)] = some new.toArray := by
  have h := fill_cons (fun i => some (i * size, size)) 0 0 new old [] [] [] (by simp [hn]) (by omega) rfl
  simp only [List.nil_append, List.append_nil] at h
  rw [h]; rfl
theorem fill_two (size : Nat) (x y o p : List Value) (hx : x.length = size) (hy : y.length = size) (ho : o.length = size) (hp : p.length = size) :
    Instr.fill (fun i => some (i * size, size)) (o ++ p).toArray [(0, .agg x.toArray), (1, .agg y.toArray)] = some (x ++ y).toArray := by
  have h1 := fill_cons (fun i => some (i * size, size)) 0 0 x o [] p [(1, .agg y.toArray)] (by simp [hx]) (by omega) rfl
  have h2 := fill_cons (fun i => some (i * size, size)) 1 size y p x [] [] (by simp [hy]) (by omega) hx
  simp only [List.nil_append, List.append_nil] at h1 h2
  rw [h1, h2]; rfl
theorem range_two (z : List Value) (n : Nat) (h : z.length = n) (h0 : 0 < n) : ((Array.range (2 * n)).map (z.toArray[· % z.toArray.size]!)) = (z ++ z).toArray := by
  subst h
  apply Array.toList_inj.1
  rw [Array.toList_map, Array.toList_range, Nat.two_mul, List.range_add, List.map_append]
  have hL : (List.range z.length).map (fun i => z.toArray[i % z.toArray.size]!) = z := by
    apply List.ext_getElem
    · simp
    · intro i h1 h2
      simp [Nat.mod_eq_of_lt h2]
      rw [List.getElem?_eq_getElem h2]; rfl
  rw [hL, List.map_map]
  congr 1
  conv => rhs; rw [← hL]
  refine List.map_congr_left fun i hi => ?_
  simp
theorem range_one (z : List Value) (n : Nat) (h : z.length = n) : ((Array.range (1 * n)).map (z.toArray[· % z.toArray.size]!)) = z.toArray := by
  subst h
  apply Array.toList_inj.1
  rw [Array.toList_map, Array.toList_range, Nat.one_mul]
  apply List.ext_getElem
  · simp
  · intro i h1 h2
    simp [Nat.mod_eq_of_lt (show i < z.length by simpa using h2)]
    rw [List.getElem?_eq_getElem (by simpa using h2)]; rfl
section
variable {P : Program} (w : World) (t e : TypeId) (i : TypeInfo) (z : List Value) (size : Nat) (ht : P.underlying t = some (.slice e)) (hi : P.info? e = some i) (hz : i.zero = some (.agg z.toArray)) (hs : i.size = size) (hzl : z.length = size) (h0 : 0 < size) (hm : 2 * size ≤ 16777216)
include ht hi hz hs hzl h0 hm
theorem run_bsl_one (x : List Value) (hx : x.length = size) : (Instr.buildSlice t 1 #[(0, .agg x.toArray)]).run P w = .ok (.slice (some ⟨w.heap.size, 0, none⟩) 1 1) (w.alloc (.cells x.toArray e)) := by
  subst hs
  have hf := fill_one i.size x z hx hzl
  have hr := range_one z i.size hzl
  simp at hr
  simp [Instr.buildSlice, run_underlying ht, sizeOf, typeInfo, zeroValue, hi, hz, Result.andThen, Value.cells, newRow, hr, hf, show ¬ 16777216 < i.size by omega, show ¬ i.size = 0 by omega]
theorem run_bsl_two (x y : List Value) (hx : x.length = size) (hy : y.length = size) : (Instr.buildSlice t 2 #[(0, .agg x.toArray), (1, .agg y.toArray)]).run P w = .ok (.slice (some ⟨w.heap.size, 0, none⟩) 2 2) (w.alloc (.cells (x ++ y).toArray e)) := by
  subst hs
  have hf := fill_two i.size x y z z hx hy hzl hzl
  have hr := range_two z i.size hzl h0
  simp at hr hf
  simp [Instr.buildSlice, run_underlying ht, sizeOf, typeInfo, zeroValue, hi, hz, Result.andThen, Value.cells, newRow, hr, hf, show ¬ 16777216 < 2 * i.size by omega, show ¬ 2 * i.size = 0 by omega]
end
/-- As an operation. -/
theorem wp_bsl {P : Program} {o : Oper} {a : Act} {w : World} {K : Act → World → Prop} {Q : Exit → Act → World → Prop} (t : TypeId) (n : Nat) (parts : Array (Nat × Operand)) (ho : o.op = .buildSlice t n parts) (vs : Array (Nat × Value)) (hv : (parts.map fun (i, x) => (i, a.eval x)) = vs) (v : Value) (w' : World) (hr : (Instr.buildSlice t n vs).run P w = .ok v w')
    (h : K (a.put o.dst v) w') : o.wp P a w K Q := by
  unfold Oper.wp execOp
  simp only [ho, Sem.run_bind, hv, hr, Result.andThen_ok, Sem.run_pure]
  exact h
theorem wpList_bsl {P : Program} {ops : Array Oper} {rest : List Oper} {o : Oper} {a : Act} {w : World} {Q : Exit → Act → World → Prop} (hgd : o.guard = none) (t : TypeId) (n : Nat) (parts : Array (Nat × Operand)) (ho : o.op = .buildSlice t n parts) (vs : Array (Nat × Value)) (hv : (parts.map fun (i, x) => (i, a.eval x)) = vs) (v : Value) (w' : World) (hr : (Instr.buildSlice t n vs).run P w = .ok v w')
    (h : wpList P ops Q rest (a.put o.dst v) w') : wpList P ops Q (o :: rest) a w :=
  wpList_plain hgd fun _ hK => wp_bsl t n parts ho vs hv v w' hr (hK _ _ h)
theorem Reg.step_bsl {P : Program} {ops : Array Oper} {o : Oper} {a : Act} {w : World} {K : Act → World → Prop} {Q : Exit → Act → World → Prop} {E : Prop} (hgd : o.guard = none) (t : TypeId) (n : Nat) (parts : Array (Nat × Operand)) (ho : o.op = .buildSlice t n parts) (vs : Array (Nat × Value)) (hv : (parts.map fun (i, x) => (i, a.eval x)) = vs) (v : Value) (w' : World) (hr : (Instr.buildSlice t n vs).run P w = .ok v w')
    (h : K (a.put o.dst v) w') : if Region.wanted o (yielded ops a.tmps) = true then Oper.wp P o a w K Q else E := by
  have hw : Region.wanted o (yielded ops a.tmps) = true := by simp [Region.wanted, hgd]
  rw [if_pos hw]
  exact wp_bsl t n parts ho vs hv v w' hr h
end Go.Proofs.Ytmmgbhdjjejacaa

