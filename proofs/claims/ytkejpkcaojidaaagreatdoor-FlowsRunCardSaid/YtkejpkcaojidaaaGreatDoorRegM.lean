/-
  Values of many cells in a region that draws its order: a load, a store, a build of them as one operation. Nothing of the program is named here; no condition but those that are named.
-/
import Derived.Test.YtkejpkcaojidaaaGreatDoorReg3
import Derived.Deep.MidRow
import Derived.Deep.WholeRow
import Derived.Deep.RegionLaw
import Derived.Test.YtkejpkcaojidaaaGreatDoorReg2
namespace Go.Proofs.YtkejpkcaojidaaaGreatDoor
set_option linter.unusedVariables false
set_option linter.unusedSimpArgs false
open Go.RowKit

theorem Blk.rowF {u : World} {g : Nat} {t : TypeId} {cs cs' : Array Value} (hB : Blk u g t cs) : Blk (u.setRow g cs') g t cs' := setRow_heap u g cs cs' t (0, 0) hB
theorem setCells_heap : ∀ (new old P S : List Value) (o g : Nat) (t : TypeId) (w : World), Blk w g t (P ++ (old ++ S)).toArray → new.length = old.length → P.length = o → Blk (w.setCells g o new) g t (P ++ (new ++ S)).toArray ∧ But g w (w.setCells g o new)
  | [], old, P, S, o, g, t, w, h, hl, ho => by
    obtain rfl : old = [] := List.length_eq_zero_iff.1 hl.symm
    exact ⟨h, But.refl _ _⟩
  | v :: r, [], P, S, o, g, t, w, h, hl, ho => by simp at hl
  | v :: r, u :: r', P, S, o, g, t, w, h, hl, ho => by
    have h1 : Blk (w.setCell ⟨g, o, none⟩ v) g t ((P ++ [v]) ++ (r' ++ S)).toArray := by
      have := h.set_ o v
      rw [List.setIfInBounds_toArray, List.set_append_right _ _ (by omega), ho, Nat.sub_self] at this
      simpa using this
    obtain ⟨k1, k2⟩ := setCells_heap r r' (P ++ [v]) S (o + 1) g t (w.setCell ⟨g, o, none⟩ v) h1 (by simpa using hl) (by simp [ho])
    refine ⟨?_, (But.one o v).trans k2⟩
    simpa [World.setCells] using k1
/-- A value of many cells into a block that was made just now. -/
theorem store_big {O : List Value} (T : TypeId) (w : World) (g : Nat) (hg : g = w.heap.size) (Z : Array Value) (hz : Z.size = O.length) (h1 : ∀ v ∈ O, v.oneCell' = true) :
    (storeCells ⟨g, 0, none⟩ O).run Tryz.prog (w.alloc (.cells Z T)) = .ok () (w.alloc (.cells O.toArray T)) := by
  subst hg
  have := run_storeCells_from (P := Tryz.prog) w.heap.size T O 0 Z (w.alloc (.cells Z T)) (heap_alloc_last w _) (by omega) h1
  rw [this]
  simp [World.setRow_alloc_new]
/-- A value of many cells into the middle of a block. -/
theorem store_part {w : World} {g o : Nat} {t : TypeId} (new old P S : List Value) (h : Blk w g t (P ++ (old ++ S)).toArray) (hl : new.length = old.length) (ho : P.length = o) (h1 : ∀ v ∈ new, v.oneCell' = true) :
    (storeCells ⟨g, o, none⟩ new).run Tryz.prog w = .ok () (w.setCells g o new) := by
  have := run_storeCells_cells (P := Tryz.prog) g o new 0 w (fun j hj => by
    rw [h.cell, List.getElem?_toArray, List.getElem?_append_right (by omega), List.getElem?_append_left (by omega)]
    rw [List.getElem?_eq_getElem (by omega)]; rfl) (fun j _ => h.frozen _) h1
  simpa using this
theorem range_of {w : World} {g o : Nat} {t : TypeId} (L P S : List Value) (h : Blk w g t (P ++ (L ++ S)).toArray) (ho : P.length = o) : w.rangeAt g o L := fun j v hv => by
  have hj : j < L.length := (List.getElem?_eq_some_iff.1 hv).1
  rw [h.cell, List.getElem?_toArray, List.getElem?_append_right (by omega), ho, Nat.add_sub_cancel_left, List.getElem?_append_left hj]
  exact hv
end Go.Proofs.YtkejpkcaojidaaaGreatDoor

namespace Go.Proofs.YtkejpkcaojidaaaGreatDoor
open Go.RowKit

namespace Reg
section
variable {P : Program} {ops : Array Oper} {o : Oper} {a : Act} {w : World} {K : Act → World → Prop} {Q : Exit → Act → World → Prop} {E : Prop}
/-- The whole of a block, read as one operation of a region. -/
theorem step_load_row (hgd : o.guard = none) (T : TypeId) (x : Operand) (ho : o.op = .load T x) (g : Nat) (hx : a.eval x = .pointer (some ⟨g, 0, none⟩)) (cs : List Value) (t : TypeId) (hB : Blk w g t cs.toArray) (d : TypeDesc)
    (hu : P.underlying T = some d) (hd : d.isRow = true) (hi : (P.info? T).map (·.size) = some cs.length) (h : K (a.put o.dst (.agg cs.toArray)) w) :
    if Region.wanted o (yielded ops a.tmps) = true then Oper.wp P o a w K Q else E := by
  have hw : Region.wanted o (yielded ops a.tmps) = true := by simp [Region.wanted, hgd]
  rw [if_pos hw]
  exact wp_load_mid T x ho g 0 hx cs d (fun j v hv => by rw [Nat.zero_add, hB.cell, List.getElem?_toArray]; exact hv) hu hd hi h
/-- The whole of a block, written as one operation of a region. -/
theorem step_store_row (hgd : o.guard = none) (T : TypeId) (x y : Operand) (ho : o.op = .store T x y) (g : Nat) (cs : Array Value) (hx : a.eval x = .pointer (some ⟨g, 0, none⟩)) (hy : a.eval y = .agg cs) (t : TypeId) (old : Array Value) (hB : Blk w g t old)
    (hi : (P.info? T).map (·.size) = some cs.size) (hold : old.size = cs.size) (h1 : cs.all (·.oneCell') = true) (h : K (a.put o.dst undef) (w.setRow g cs)) :
    if Region.wanted o (yielded ops a.tmps) = true then Oper.wp P o a w K Q else E := by
  have hw : Region.wanted o (yielded ops a.tmps) = true := by simp [Region.wanted, hgd]
  rw [if_pos hw]
  exact wp_store_row T x y ho g cs hx hy t old hB hi hold h1 h
end
end Reg
namespace Reg
section
variable {P : Program} {ops : Array Oper} {o : Oper} {a : Act} {w : World} {K : Act → World → Prop} {Q : Exit → Act → World → Prop} {E : Prop}
theorem step_store_mid (hgd : o.guard = none) (T : TypeId) (x y : Operand) (ho : o.op = .store T x y) (g off : Nat) (new old Pr Su : List Value) (t : TypeId) (hx : a.eval x = .pointer (some ⟨g, off, none⟩)) (hy : a.eval y = .agg new.toArray) (hB : Blk w g t (Pr ++ (old ++ Su)).toArray)
    (hl : new.length = old.length) (hp : Pr.length = off) (hi : (P.info? T).map (·.size) = some new.length) (h1 : ∀ v ∈ new, v.oneCell' = true) (h : K (a.put o.dst undef) (w.setCells g off new)) :
    if Region.wanted o (yielded ops a.tmps) = true then Oper.wp P o a w K Q else E := by
  have hw : Region.wanted o (yielded ops a.tmps) = true := by simp [Region.wanted, hgd]
  rw [if_pos hw]
  refine wp_store_mid T x y ho g off new.toArray hx hy (fun j hj => ⟨?_, hB.frozen _⟩) (by simpa using hi) (all_oneCell_toArray h1) h
  have hj' : j < new.length := by simpa using hj
  rw [hB.cell, List.getElem?_toArray, List.getElem?_append_right (by omega), List.getElem?_append_left (by omega), List.getElem?_eq_getElem (by omega)]
  rfl
theorem step_build (hgd : o.guard = none) (t : TypeId) (parts : Array (Nat × Operand)) (ho : o.op = .build t parts) (cells : Array Value) (hb : P.built t (parts.map fun (i, x) => (i, a.eval x)).toList = some cells) (h : K (a.put o.dst (.agg cells)) w) :
    if Region.wanted o (yielded ops a.tmps) = true then Oper.wp P o a w K Q else E := by
  have hw : Region.wanted o (yielded ops a.tmps) = true := by simp [Region.wanted, hgd]
  rw [if_pos hw]
  unfold Oper.wp execOp
  simp only [ho, Sem.run_bind, run_build w t _ cells hb, Result.andThen_ok, Sem.run_pure]
  exact h
theorem KJ.but {B g : Nat} {Js : List (World → Prop)} {w w' : World} (h : But g w w') (hB : B ≤ g) (hJ : ∀ J ∈ Js, J w → J w') : KJ B [g] Js w w' :=
  ⟨h.low hB, fun x hx hn => h.2 x hx (by simpa using hn), hJ⟩
end
end Reg
namespace Reg
section
variable {P : Program} {ops : Array Oper} {o : Oper} {a : Act} {w : World} {K : Act → World → Prop} {Q : Exit → Act → World → Prop} {E : Prop}
end
end Reg
end Go.Proofs.YtkejpkcaojidaaaGreatDoor

