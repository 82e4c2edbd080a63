/-
  A line's block (its hop, its ticks, what is here, what is next), and the contracts of package lines, for lines of numbers, of bytes, of texts and of lists of texts. Conditions: the line's reading; ticks are fewer than 2^62; of a list that is sent: the reading of its one thing.
-/
import Derived.Test.YtgmoifbncijhdaaDoorBut
import Derived.Test.YtgmoifbncijhdaaDoorLst
import Derived.Deep.QuietTactic
namespace Go.Proofs.YtgmoifbncijhdaaDoor
open Go.RowKit
set_option linter.unusedVariables false

/-- A line of int, as it lies in its block. -/
def LnI (w : World) (g : Nat) (h k : Int) (x : Int) (p : Bool) (y : Int) (q : Bool) : Prop := Blk w g 85 #[.int .i64 h, .int .i64 k, .int .i64 x, .bool p, .int .i64 y, .bool q]
theorem newI_no (h : Int) (w : World) (h1 : h ≠ 1) (h2 : h ≠ 2) :
    Calls Tryd.prog 38 #[.int .i64 h] w fun e w' => e = .returned (.tuple #[.pointer none, .int .i64 1]) ∧ Below w.heap.size w w' := by
  have q1 : (h != 1) = true := bne_iff_ne.2 h1
  have q2 : (h != 2) = true := bne_iff_ne.2 h2
  go_enter Tryd.func38, Tryd.ntmps38
  go_wp2_with fail
  go_ret2
  exact ⟨rfl, Below.refl _ _⟩
theorem newI_one (w : World) :
    Calls Tryd.prog 38 #[.int .i64 1] w fun e w' => e = .returned (.tuple #[.pointer (some ⟨w.heap.size, 0, none⟩), .int .i64 0]) ∧ Blk w' w.heap.size 85 #[.int .i64 1, .int .i64 0, .int .i64 0, .bool false, .int .i64 0, .bool false] ∧ Below w.heap.size w w' := by
  go_enter Tryd.func38, Tryd.ntmps38
  go_wp2_with fail
  go_ret2
  exact ⟨rfl, Blk.new _ _ _, below_al (Below.refl _ _) _⟩
theorem newI_two (w : World) :
    Calls Tryd.prog 38 #[.int .i64 2] w fun e w' => e = .returned (.tuple #[.pointer (some ⟨w.heap.size, 0, none⟩), .int .i64 0]) ∧ Blk w' w.heap.size 85 #[.int .i64 2, .int .i64 0, .int .i64 0, .bool false, .int .i64 0, .bool false] ∧ Below w.heap.size w w' := by
  go_enter Tryd.func38, Tryd.ntmps38
  go_wp2_with fail
  go_ret2
  exact ⟨rfl, Blk.new _ _ _, below_al (Below.refl _ _) _⟩
theorem hereI_nil (w : World) :
    Calls Tryd.prog 30 #[.pointer none] w fun e w' => e = .returned (.tuple #[.int .i64 0, .bool false]) ∧ Below w.heap.size w w' := by
  go_enter Tryd.func30, Tryd.ntmps30
  go_wp2_with fail
  go_ret2
  exact ⟨rfl, Below.refl _ _⟩
theorem hereI_any (g : Nat) (h k : Int) (x : Int) (p : Bool) (y : Int) (q : Bool) (w : World) (hL : LnI w g h k x p y q) :
    Calls Tryd.prog 30 #[.pointer (some ⟨g, 0, none⟩)] w fun e w' => e = .returned (.tuple #[.int .i64 x, .bool p]) ∧ Below w.heap.size w w' := by
  have hB : Blk w g 85 _ := hL
  have c0 := hB.cell 0
  have c1 := hB.cell 1
  have c2 := hB.cell 2
  have c3 := hB.cell 3
  have c4 := hB.cell 4
  have c5 := hB.cell 5
  have cl := hB.lt
  simp only [List.getElem?_toArray, List.getElem?_cons_zero, List.getElem?_cons_succ] at c0 c1 c2 c3 c4 c5
  clear hL hB
  go_enter Tryd.func30, Tryd.ntmps30
  go_wp2_with fail
  go_region
  all_goals (go_wp2_with fail)
  all_goals (go_ret2; exact ⟨rfl, by first | exact Below.refl _ _ | exact (Below.refl _ _).drew⟩)
theorem ticksI_nil (w : World) :
    Calls Tryd.prog 34 #[.pointer none] w fun e w' => e = .returned (.int .i64 0) ∧ Below w.heap.size w w' := by
  go_enter Tryd.func34, Tryd.ntmps34
  go_wp2_with fail
  go_ret
  exact ⟨rfl, Below.refl _ _⟩
theorem ticksI_any (g : Nat) (h k : Int) (x : Int) (p : Bool) (y : Int) (q : Bool) (w : World) (hL : LnI w g h k x p y q) :
    Calls Tryd.prog 34 #[.pointer (some ⟨g, 0, none⟩)] w fun e w' => e = .returned (.int .i64 k) ∧ Below w.heap.size w w' := by
  have hB : Blk w g 85 _ := hL
  have c0 := hB.cell 0
  have c1 := hB.cell 1
  have c2 := hB.cell 2
  have c3 := hB.cell 3
  have c4 := hB.cell 4
  have c5 := hB.cell 5
  have cl := hB.lt
  simp only [List.getElem?_toArray, List.getElem?_cons_zero, List.getElem?_cons_succ] at c0 c1 c2 c3 c4 c5
  clear hL hB
  go_enter Tryd.func34, Tryd.ntmps34
  go_wp2_with fail
  go_ret
  exact ⟨rfl, Below.refl _ _⟩
theorem sentI_none (A : Option Addr) (c : Nat) (w : World) :
    Calls Tryd.prog 40 #[.slice A 0 c] w fun e w' => e = .returned (.agg #[.int .i64 0, .bool false]) ∧ Below w.heap.size w w' := by
  go_enter Tryd.func40, Tryd.ntmps40
  go_wp2_with fail
  refine bodyPost_ret (v := .agg #[.int .i64 0, .bool false]) (by simp [results, Tryd.results40, go_sem] <;> rfl) rfl ⟨rfl, ?_⟩
  first | exact below_al (Below.refl _ _) _ | exact (Below.refl _ _).alloc (Nat.le_refl _) _
theorem sentI_one (b o c : Nat) (x : Int) (w : World) (hx : w.cell? ⟨b, o, none⟩ = some (.int .i64 x)) (hb : b < w.heap.size) :
    Calls Tryd.prog 40 #[.slice (some ⟨b, o, none⟩) 1 c] w fun e w' => e = .returned (.agg #[.int .i64 x, .bool true]) ∧ Below w.heap.size w w' := by
  go_enter Tryd.func40, Tryd.ntmps40
  go_wp2_with fail
  refine bodyPost_ret (v := .agg #[.int .i64 x, .bool true]) (by simp [results, Tryd.results40, go_sem] <;> rfl) rfl ⟨rfl, ?_⟩
  first | exact below_al (Below.refl _ _) _ | exact (Below.refl _ _).alloc (Nat.le_refl _) _
theorem endI_near (g : Nat) (k : Int) (x : Int) (p : Bool) (y : Int) (q : Bool) (z : Int) (r : Bool) (w : World) (hL : LnI w g 1 k x p y q) (hk : 0 ≤ k) (hk' : k < 4611686018427387904) :
    Calls Tryd.prog 39 #[.pointer (some ⟨g, 0, none⟩), .agg #[.int .i64 z, .bool r]] w fun e w' => e = .returned (.tuple #[]) ∧ LnI w' g 1 (k + 1) z r y q ∧ But g w w' := by
  have hB : Blk w g 85 _ := hL
  have hA := hB.alloc (.cells #[.int .i64 z, .bool r] 83)
  have hN := Blk.new w 83 #[.int .i64 z, .bool r]
  have hg := hB.lt
  have hne : g ≠ w.heap.size := Nat.ne_of_lt hg
  have hw : IntKind.i64.wrap (k + 1) = k + 1 := IntWalk.i64_in _ (by omega)
  have c0 := hB.cell 0
  have c1 := hB.cell 1
  have c2 := hB.cell 2
  have c3 := hB.cell 3
  have c4 := hB.cell 4
  have c5 := hB.cell 5
  have cl := hB.lt
  simp only [List.getElem?_toArray, List.getElem?_cons_zero, List.getElem?_cons_succ] at c0 c1 c2 c3 c4 c5
  have f0 := hB.frozen 0
  have f1 := hB.frozen 1
  have f2 := hB.frozen 2
  have f3 := hB.frozen 3
  have f4 := hB.frozen 4
  have f5 := hB.frozen 5
  clear hk hk' hL
  go_enter Tryd.func39, Tryd.ntmps39
  go_wp2_with fail
  go_end0
  refine ⟨rfl, ?_, ?_⟩
  · exact ((((hB.set_ 2 _).set_ 3 _).set_ 1 _).alloc _)
  · exact But.al hg (((But.one 2 _).set 3 _).set 1 _) _
theorem endI_far (g : Nat) (k : Int) (x : Int) (p : Bool) (y : Int) (q : Bool) (z : Int) (r : Bool) (w : World) (hL : LnI w g 2 k x p y q) (hk : 0 ≤ k) (hk' : k < 4611686018427387904) :
    Calls Tryd.prog 39 #[.pointer (some ⟨g, 0, none⟩), .agg #[.int .i64 z, .bool r]] w fun e w' => e = .returned (.tuple #[]) ∧ LnI w' g 2 (k + 1) y q z r ∧ But g w w' := by
  have hB : Blk w g 85 _ := hL
  have hA := hB.alloc (.cells #[.int .i64 z, .bool r] 83)
  have hN := Blk.new w 83 #[.int .i64 z, .bool r]
  have hg := hB.lt
  have hne : g ≠ w.heap.size := Nat.ne_of_lt hg
  have hw : IntKind.i64.wrap (k + 1) = k + 1 := IntWalk.i64_in _ (by omega)
  have c0 := hB.cell 0
  have c1 := hB.cell 1
  have c2 := hB.cell 2
  have c3 := hB.cell 3
  have c4 := hB.cell 4
  have c5 := hB.cell 5
  have cl := hB.lt
  simp only [List.getElem?_toArray, List.getElem?_cons_zero, List.getElem?_cons_succ] at c0 c1 c2 c3 c4 c5
  have f0 := hB.frozen 0
  have f1 := hB.frozen 1
  have f2 := hB.frozen 2
  have f3 := hB.frozen 3
  have f4 := hB.frozen 4
  have f5 := hB.frozen 5
  clear hk hk' hL
  go_enter Tryd.func39, Tryd.ntmps39
  go_wp2_with fail
  go_region
  all_goals (go_wp2_with fail)
  all_goals go_end0
  all_goals refine ⟨rfl, ?_, ?_⟩
  · exact (((((hB.set_ 2 _).set_ 3 _).set_ 4 _).set_ 5 _).set_ 1 _).alloc _
  · exact (But.al hg (((((But.one 2 _).set 3 _).set 4 _).set 5 _).set 1 _) _).drew
end Go.Proofs.YtgmoifbncijhdaaDoor
