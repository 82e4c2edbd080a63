/-
  A line's block (its hop, its ticks, what is here, what is next), and the contracts of package lines, for lines of numbers, of bytes, of texts and of lists of texts. Conditions: the line's reading; ticks are fewer than 2^62; of a list that is sent: the reading of its one thing.
-/
import Derived.Test.YtlbpplibngdncaaBut
import Derived.Test.YtlbpplibngdncaaLst
import Derived.Deep.QuietTactic
namespace Go.Proofs.Ytlbpplibngdncaa
open Go.RowKit
set_option linter.unusedVariables false

/-- A line of int, as it lies in its block. -/
def LnI (w : World) (g : Nat) (h k : Int) (x : Int) (p : Bool) (y : Int) (q : Bool) : Prop := Blk w g 52 #[.int .i64 h, .int .i64 k, .int .i64 x, .bool p, .int .i64 y, .bool q]
theorem newI_no (h : Int) (w : World) (h1 : h ≠ 1) (h2 : h ≠ 2) :
    Calls Try.prog 8 #[.int .i64 h] w fun e w' => e = .returned (.tuple #[.pointer none, .int .i64 1]) ∧ Below w.heap.size w w' := by
  have q1 : (h != 1) = true := bne_iff_ne.2 h1
  have q2 : (h != 2) = true := bne_iff_ne.2 h2
  go_enter Try.func8, Try.ntmps8
  go_wp2_with fail
  go_ret2
  exact ⟨rfl, Below.refl _ _⟩
theorem newI_one (w : World) :
    Calls Try.prog 8 #[.int .i64 1] w fun e w' => e = .returned (.tuple #[.pointer (some ⟨w.heap.size, 0, none⟩), .int .i64 0]) ∧ Blk w' w.heap.size 52 #[.int .i64 1, .int .i64 0, .int .i64 0, .bool false, .int .i64 0, .bool false] ∧ Below w.heap.size w w' := by
  go_enter Try.func8, Try.ntmps8
  go_wp2_with fail
  go_ret2
  exact ⟨rfl, Blk.new _ _ _, below_al (Below.refl _ _) _⟩
theorem newI_two (w : World) :
    Calls Try.prog 8 #[.int .i64 2] w fun e w' => e = .returned (.tuple #[.pointer (some ⟨w.heap.size, 0, none⟩), .int .i64 0]) ∧ Blk w' w.heap.size 52 #[.int .i64 2, .int .i64 0, .int .i64 0, .bool false, .int .i64 0, .bool false] ∧ Below w.heap.size w w' := by
  go_enter Try.func8, Try.ntmps8
  go_wp2_with fail
  go_ret2
  exact ⟨rfl, Blk.new _ _ _, below_al (Below.refl _ _) _⟩
theorem hereI_nil (w : World) :
    Calls Try.prog 10 #[.pointer none] w fun e w' => e = .returned (.tuple #[.int .i64 0, .bool false]) ∧ Below w.heap.size w w' := by
  go_enter Try.func10, Try.ntmps10
  go_wp2_with fail
  go_ret2
  exact ⟨rfl, Below.refl _ _⟩
theorem hereI_any (g : Nat) (h k : Int) (x : Int) (p : Bool) (y : Int) (q : Bool) (w : World) (hL : LnI w g h k x p y q) :
    Calls Try.prog 10 #[.pointer (some ⟨g, 0, none⟩)] w fun e w' => e = .returned (.tuple #[.int .i64 x, .bool p]) ∧ Below w.heap.size w w' := by
  have hB : Blk w g 52 _ := hL
  have c0 := hB.cell 0
  have c1 := hB.cell 1
  have c2 := hB.cell 2
  have c3 := hB.cell 3
  have c4 := hB.cell 4
  have c5 := hB.cell 5
  have cl := hB.lt
  simp only [List.getElem?_toArray, List.getElem?_cons_zero, List.getElem?_cons_succ] at c0 c1 c2 c3 c4 c5
  clear hL hB
  go_enter Try.func10, Try.ntmps10
  go_wp2_with fail
  go_region
  all_goals (go_wp2_with fail)
  all_goals (go_ret2; exact ⟨rfl, by first | exact Below.refl _ _ | exact (Below.refl _ _).drew⟩)
theorem ticksI_nil (w : World) :
    Calls Try.prog 20 #[.pointer none] w fun e w' => e = .returned (.int .i64 0) ∧ Below w.heap.size w w' := by
  go_enter Try.func20, Try.ntmps20
  go_wp2_with fail
  go_ret
  exact ⟨rfl, Below.refl _ _⟩
theorem ticksI_any (g : Nat) (h k : Int) (x : Int) (p : Bool) (y : Int) (q : Bool) (w : World) (hL : LnI w g h k x p y q) :
    Calls Try.prog 20 #[.pointer (some ⟨g, 0, none⟩)] w fun e w' => e = .returned (.int .i64 k) ∧ Below w.heap.size w w' := by
  have hB : Blk w g 52 _ := hL
  have c0 := hB.cell 0
  have c1 := hB.cell 1
  have c2 := hB.cell 2
  have c3 := hB.cell 3
  have c4 := hB.cell 4
  have c5 := hB.cell 5
  have cl := hB.lt
  simp only [List.getElem?_toArray, List.getElem?_cons_zero, List.getElem?_cons_succ] at c0 c1 c2 c3 c4 c5
  clear hL hB
  go_enter Try.func20, Try.ntmps20
  go_wp2_with fail
  go_ret
  exact ⟨rfl, Below.refl _ _⟩
theorem wayI_nil (w : World) :
    Calls Try.prog 13 #[.pointer none] w fun e w' => e = .returned (.slice none 0 0) ∧ Below w.heap.size w w' := by
  go_enter Try.func13, Try.ntmps13
  go_wp2_with fail
  go_ret
  exact ⟨rfl, Below.refl _ _⟩
theorem wayI_none (g : Nat) (h k : Int) (x : Int) (p : Bool) (y : Int) (w : World) (hL : LnI w g h k x p y false) :
    Calls Try.prog 13 #[.pointer (some ⟨g, 0, none⟩)] w fun e w' => e = .returned (.slice none 0 0) ∧ Below w.heap.size w w' := by
  have hB : Blk w g 52 _ := hL
  have c0 := hB.cell 0
  have c1 := hB.cell 1
  have c2 := hB.cell 2
  have c3 := hB.cell 3
  have c4 := hB.cell 4
  have c5 := hB.cell 5
  have cl := hB.lt
  simp only [List.getElem?_toArray, List.getElem?_cons_zero, List.getElem?_cons_succ] at c0 c1 c2 c3 c4 c5
  clear hL hB
  go_enter Try.func13, Try.ntmps13
  go_wp2_with fail
  go_ret
  exact ⟨rfl, Below.refl _ _⟩
theorem wayI_some (g : Nat) (h k : Int) (x : Int) (p : Bool) (y : Int) (w : World) (hL : LnI w g h k x p y true) :
    Calls Try.prog 13 #[.pointer (some ⟨g, 0, none⟩)] w fun e w' => e = .returned (.slice (some ⟨w.heap.size, 0, none⟩) 1 1) ∧ Blk w' w.heap.size 3 #[.int .i64 y] ∧ Below w.heap.size w w' := by
  have hB : Blk w g 52 _ := hL
  have c0 := hB.cell 0
  have c1 := hB.cell 1
  have c2 := hB.cell 2
  have c3 := hB.cell 3
  have c4 := hB.cell 4
  have c5 := hB.cell 5
  have cl := hB.lt
  simp only [List.getElem?_toArray, List.getElem?_cons_zero, List.getElem?_cons_succ] at c0 c1 c2 c3 c4 c5
  clear hL hB
  go_enter Try.func13, Try.ntmps13
  go_wp2_with fail
  go_ret
  exact ⟨rfl, Blk.new _ _ _, below_al (Below.refl _ _) _⟩
theorem sentI_none (A : Option Addr) (c : Nat) (w : World) :
    Calls Try.prog 38 #[.slice A 0 c] w fun e w' => e = .returned (.agg #[.int .i64 0, .bool false]) ∧ Below w.heap.size w w' := by
  go_enter Try.func38, Try.ntmps38
  go_wp2_with fail
  refine bodyPost_ret (v := .agg #[.int .i64 0, .bool false]) (by simp [results, Try.results38, go_sem] <;> rfl) rfl ⟨rfl, ?_⟩
  first | exact below_al (Below.refl _ _) _ | exact (Below.refl _ _).alloc (Nat.le_refl _) _
theorem sentI_one (b o c : Nat) (x : Int) (w : World) (hx : w.cell? ⟨b, o, none⟩ = some (.int .i64 x)) (hb : b < w.heap.size) :
    Calls Try.prog 38 #[.slice (some ⟨b, o, none⟩) 1 c] w fun e w' => e = .returned (.agg #[.int .i64 x, .bool true]) ∧ Below w.heap.size w w' := by
  go_enter Try.func38, Try.ntmps38
  go_wp2_with fail
  refine bodyPost_ret (v := .agg #[.int .i64 x, .bool true]) (by simp [results, Try.results38, go_sem] <;> rfl) rfl ⟨rfl, ?_⟩
  first | exact below_al (Below.refl _ _) _ | exact (Below.refl _ _).alloc (Nat.le_refl _) _
theorem endI_near (g : Nat) (k : Int) (x : Int) (p : Bool) (y : Int) (q : Bool) (z : Int) (r : Bool) (w : World) (hL : LnI w g 1 k x p y q) (hk : 0 ≤ k) (hk' : k < 4611686018427387904) :
    Calls Try.prog 37 #[.pointer (some ⟨g, 0, none⟩), .agg #[.int .i64 z, .bool r]] w fun e w' => e = .returned (.tuple #[]) ∧ LnI w' g 1 (k + 1) z r y q ∧ But g w w' := by
  have hB : Blk w g 52 _ := hL
  have hA := hB.alloc (.cells #[.int .i64 z, .bool r] 50)
  have hN := Blk.new w 50 #[.int .i64 z, .bool r]
  have hg := hB.lt
  have hne : g ≠ w.heap.size := Nat.ne_of_lt hg
  have hw : IntKind.i64.wrap (k + 1) = k + 1 := IntWalk.i64_in _ (by omega)
  have c0 := hB.cell 0
  have c1 := hB.cell 1
  have c2 := hB.cell 2
  have c3 := hB.cell 3
  have c4 := hB.cell 4
  have c5 := hB.cell 5
  have cl := hB.lt
  simp only [List.getElem?_toArray, List.getElem?_cons_zero, List.getElem?_cons_succ] at c0 c1 c2 c3 c4 c5
  have f0 := hB.frozen 0
  have f1 := hB.frozen 1
  have f2 := hB.frozen 2
  have f3 := hB.frozen 3
  have f4 := hB.frozen 4
  have f5 := hB.frozen 5
  clear hk hk' hL
  go_enter Try.func37, Try.ntmps37
  go_wp2_with fail
  go_end0
  refine ⟨rfl, ?_, ?_⟩
  · exact ((((hB.set_ 2 _).set_ 3 _).set_ 1 _).alloc _)
  · exact But.al hg (((But.one 2 _).set 3 _).set 1 _) _
theorem endI_far (g : Nat) (k : Int) (x : Int) (p : Bool) (y : Int) (q : Bool) (z : Int) (r : Bool) (w : World) (hL : LnI w g 2 k x p y q) (hk : 0 ≤ k) (hk' : k < 4611686018427387904) :
    Calls Try.prog 37 #[.pointer (some ⟨g, 0, none⟩), .agg #[.int .i64 z, .bool r]] w fun e w' => e = .returned (.tuple #[]) ∧ LnI w' g 2 (k + 1) y q z r ∧ But g w w' := by
  have hB : Blk w g 52 _ := hL
  have hA := hB.alloc (.cells #[.int .i64 z, .bool r] 50)
  have hN := Blk.new w 50 #[.int .i64 z, .bool r]
  have hg := hB.lt
  have hne : g ≠ w.heap.size := Nat.ne_of_lt hg
  have hw : IntKind.i64.wrap (k + 1) = k + 1 := IntWalk.i64_in _ (by omega)
  have c0 := hB.cell 0
  have c1 := hB.cell 1
  have c2 := hB.cell 2
  have c3 := hB.cell 3
  have c4 := hB.cell 4
  have c5 := hB.cell 5
  have cl := hB.lt
  simp only [List.getElem?_toArray, List.getElem?_cons_zero, List.getElem?_cons_succ] at c0 c1 c2 c3 c4 c5
  have f0 := hB.frozen 0
  have f1 := hB.frozen 1
  have f2 := hB.frozen 2
  have f3 := hB.frozen 3
  have f4 := hB.frozen 4
  have f5 := hB.frozen 5
  clear hk hk' hL
  go_enter Try.func37, Try.ntmps37
  go_wp2_with fail
  go_region
  all_goals (go_wp2_with fail)
  all_goals go_end0
  all_goals refine ⟨rfl, ?_, ?_⟩
  · exact (((((hB.set_ 2 _).set_ 3 _).set_ 4 _).set_ 5 _).set_ 1 _).alloc _
  · exact (But.al hg (((((But.one 2 _).set 3 _).set 4 _).set 5 _).set 1 _) _).drew
/-- A line of uint8, as it lies in its block. -/
def LnU (w : World) (g : Nat) (h k : Int) (x : Int) (p : Bool) (y : Int) (q : Bool) : Prop := Blk w g 92 #[.int .i64 h, .int .i64 k, .int .u8 x, .bool p, .int .u8 y, .bool q]
theorem newU_no (h : Int) (w : World) (h1 : h ≠ 1) (h2 : h ≠ 2) :
    Calls Try.prog 22 #[.int .i64 h] w fun e w' => e = .returned (.tuple #[.pointer none, .int .i64 1]) ∧ Below w.heap.size w w' := by
  have q1 : (h != 1) = true := bne_iff_ne.2 h1
  have q2 : (h != 2) = true := bne_iff_ne.2 h2
  go_enter Try.func22, Try.ntmps22
  go_wp2_with fail
  go_ret2
  exact ⟨rfl, Below.refl _ _⟩
theorem newU_one (w : World) :
    Calls Try.prog 22 #[.int .i64 1] w fun e w' => e = .returned (.tuple #[.pointer (some ⟨w.heap.size, 0, none⟩), .int .i64 0]) ∧ Blk w' w.heap.size 92 #[.int .i64 1, .int .i64 0, .int .u8 0, .bool false, .int .u8 0, .bool false] ∧ Below w.heap.size w w' := by
  go_enter Try.func22, Try.ntmps22
  go_wp2_with fail
  go_ret2
  exact ⟨rfl, Blk.new _ _ _, below_al (Below.refl _ _) _⟩
theorem newU_two (w : World) :
    Calls Try.prog 22 #[.int .i64 2] w fun e w' => e = .returned (.tuple #[.pointer (some ⟨w.heap.size, 0, none⟩), .int .i64 0]) ∧ Blk w' w.heap.size 92 #[.int .i64 2, .int .i64 0, .int .u8 0, .bool false, .int .u8 0, .bool false] ∧ Below w.heap.size w w' := by
  go_enter Try.func22, Try.ntmps22
  go_wp2_with fail
  go_ret2
  exact ⟨rfl, Blk.new _ _ _, below_al (Below.refl _ _) _⟩
theorem hereU_nil (w : World) :
    Calls Try.prog 23 #[.pointer none] w fun e w' => e = .returned (.tuple #[.int .u8 0, .bool false]) ∧ Below w.heap.size w w' := by
  go_enter Try.func23, Try.ntmps23
  go_wp2_with fail
  go_ret2
  exact ⟨rfl, Below.refl _ _⟩
theorem hereU_any (g : Nat) (h k : Int) (x : Int) (p : Bool) (y : Int) (q : Bool) (w : World) (hL : LnU w g h k x p y q) :
    Calls Try.prog 23 #[.pointer (some ⟨g, 0, none⟩)] w fun e w' => e = .returned (.tuple #[.int .u8 x, .bool p]) ∧ Below w.heap.size w w' := by
  have hB : Blk w g 92 _ := hL
  have c0 := hB.cell 0
  have c1 := hB.cell 1
  have c2 := hB.cell 2
  have c3 := hB.cell 3
  have c4 := hB.cell 4
  have c5 := hB.cell 5
  have cl := hB.lt
  simp only [List.getElem?_toArray, List.getElem?_cons_zero, List.getElem?_cons_succ] at c0 c1 c2 c3 c4 c5
  clear hL hB
  go_enter Try.func23, Try.ntmps23
  go_wp2_with fail
  go_region
  all_goals (go_wp2_with fail)
  all_goals (go_ret2; exact ⟨rfl, by first | exact Below.refl _ _ | exact (Below.refl _ _).drew⟩)
theorem ticksU_nil (w : World) :
    Calls Try.prog 24 #[.pointer none] w fun e w' => e = .returned (.int .i64 0) ∧ Below w.heap.size w w' := by
  go_enter Try.func24, Try.ntmps24
  go_wp2_with fail
  go_ret
  exact ⟨rfl, Below.refl _ _⟩
theorem ticksU_any (g : Nat) (h k : Int) (x : Int) (p : Bool) (y : Int) (q : Bool) (w : World) (hL : LnU w g h k x p y q) :
    Calls Try.prog 24 #[.pointer (some ⟨g, 0, none⟩)] w fun e w' => e = .returned (.int .i64 k) ∧ Below w.heap.size w w' := by
  have hB : Blk w g 92 _ := hL
  have c0 := hB.cell 0
  have c1 := hB.cell 1
  have c2 := hB.cell 2
  have c3 := hB.cell 3
  have c4 := hB.cell 4
  have c5 := hB.cell 5
  have cl := hB.lt
  simp only [List.getElem?_toArray, List.getElem?_cons_zero, List.getElem?_cons_succ] at c0 c1 c2 c3 c4 c5
  clear hL hB
  go_enter Try.func24, Try.ntmps24
  go_wp2_with fail
  go_ret
  exact ⟨rfl, Below.refl _ _⟩
theorem sentU_none (A : Option Addr) (c : Nat) (w : World) :
    Calls Try.prog 40 #[.slice A 0 c] w fun e w' => e = .returned (.agg #[.int .u8 0, .bool false]) ∧ Below w.heap.size w w' := by
  go_enter Try.func40, Try.ntmps40
  go_wp2_with fail
  refine bodyPost_ret (v := .agg #[.int .u8 0, .bool false]) (by simp [results, Try.results40, go_sem] <;> rfl) rfl ⟨rfl, ?_⟩
  first | exact below_al (Below.refl _ _) _ | exact (Below.refl _ _).alloc (Nat.le_refl _) _
theorem sentU_one (b o c : Nat) (x : Int) (w : World) (hx : w.cell? ⟨b, o, none⟩ = some (.int .u8 x)) (hb : b < w.heap.size) :
    Calls Try.prog 40 #[.slice (some ⟨b, o, none⟩) 1 c] w fun e w' => e = .returned (.agg #[.int .u8 x, .bool true]) ∧ Below w.heap.size w w' := by
  go_enter Try.func40, Try.ntmps40
  go_wp2_with fail
  refine bodyPost_ret (v := .agg #[.int .u8 x, .bool true]) (by simp [results, Try.results40, go_sem] <;> rfl) rfl ⟨rfl, ?_⟩
  first | exact below_al (Below.refl _ _) _ | exact (Below.refl _ _).alloc (Nat.le_refl _) _
theorem endU_near (g : Nat) (k : Int) (x : Int) (p : Bool) (y : Int) (q : Bool) (z : Int) (r : Bool) (w : World) (hL : LnU w g 1 k x p y q) (hk : 0 ≤ k) (hk' : k < 4611686018427387904) :
    Calls Try.prog 39 #[.pointer (some ⟨g, 0, none⟩), .agg #[.int .u8 z, .bool r]] w fun e w' => e = .returned (.tuple #[]) ∧ LnU w' g 1 (k + 1) z r y q ∧ But g w w' := by
  have hB : Blk w g 92 _ := hL
  have hA := hB.alloc (.cells #[.int .u8 z, .bool r] 90)
  have hN := Blk.new w 90 #[.int .u8 z, .bool r]
  have hg := hB.lt
  have hne : g ≠ w.heap.size := Nat.ne_of_lt hg
  have hw : IntKind.i64.wrap (k + 1) = k + 1 := IntWalk.i64_in _ (by omega)
  have c0 := hB.cell 0
  have c1 := hB.cell 1
  have c2 := hB.cell 2
  have c3 := hB.cell 3
  have c4 := hB.cell 4
  have c5 := hB.cell 5
  have cl := hB.lt
  simp only [List.getElem?_toArray, List.getElem?_cons_zero, List.getElem?_cons_succ] at c0 c1 c2 c3 c4 c5
  have f0 := hB.frozen 0
  have f1 := hB.frozen 1
  have f2 := hB.frozen 2
  have f3 := hB.frozen 3
  have f4 := hB.frozen 4
  have f5 := hB.frozen 5
  clear hk hk' hL
  go_enter Try.func39, Try.ntmps39
  go_wp2_with fail
  go_end0
  refine ⟨rfl, ?_, ?_⟩
  · exact ((((hB.set_ 2 _).set_ 3 _).set_ 1 _).alloc _)
  · exact But.al hg (((But.one 2 _).set 3 _).set 1 _) _
theorem endU_far (g : Nat) (k : Int) (x : Int) (p : Bool) (y : Int) (q : Bool) (z : Int) (r : Bool) (w : World) (hL : LnU w g 2 k x p y q) (hk : 0 ≤ k) (hk' : k < 4611686018427387904) :
    Calls Try.prog 39 #[.pointer (some ⟨g, 0, none⟩), .agg #[.int .u8 z, .bool r]] w fun e w' => e = .returned (.tuple #[]) ∧ LnU w' g 2 (k + 1) y q z r ∧ But g w w' := by
  have hB : Blk w g 92 _ := hL
  have hA := hB.alloc (.cells #[.int .u8 z, .bool r] 90)
  have hN := Blk.new w 90 #[.int .u8 z, .bool r]
  have hg := hB.lt
  have hne : g ≠ w.heap.size := Nat.ne_of_lt hg
  have hw : IntKind.i64.wrap (k + 1) = k + 1 := IntWalk.i64_in _ (by omega)
  have c0 := hB.cell 0
  have c1 := hB.cell 1
  have c2 := hB.cell 2
  have c3 := hB.cell 3
  have c4 := hB.cell 4
  have c5 := hB.cell 5
  have cl := hB.lt
  simp only [List.getElem?_toArray, List.getElem?_cons_zero, List.getElem?_cons_succ] at c0 c1 c2 c3 c4 c5
  have f0 := hB.frozen 0
  have f1 := hB.frozen 1
  have f2 := hB.frozen 2
  have f3 := hB.frozen 3
  have f4 := hB.frozen 4
  have f5 := hB.frozen 5
  clear hk hk' hL
  go_enter Try.func39, Try.ntmps39
  go_wp2_with fail
  go_region
  all_goals (go_wp2_with fail)
  all_goals go_end0
  all_goals refine ⟨rfl, ?_, ?_⟩
  · exact (((((hB.set_ 2 _).set_ 3 _).set_ 4 _).set_ 5 _).set_ 1 _).alloc _
  · exact (But.al hg (((((But.one 2 _).set 3 _).set 4 _).set 5 _).set 1 _) _).drew
/-- A line of string, as it lies in its block. -/
def LnS (w : World) (g : Nat) (h k : Int) (x : ByteArray) (p : Bool) (y : ByteArray) (q : Bool) : Prop := Blk w g 98 #[.int .i64 h, .int .i64 k, .string x, .bool p, .string y, .bool q]
theorem newS_no (h : Int) (w : World) (h1 : h ≠ 1) (h2 : h ≠ 2) :
    Calls Try.prog 26 #[.int .i64 h] w fun e w' => e = .returned (.tuple #[.pointer none, .int .i64 1]) ∧ Below w.heap.size w w' := by
  have q1 : (h != 1) = true := bne_iff_ne.2 h1
  have q2 : (h != 2) = true := bne_iff_ne.2 h2
  go_enter Try.func26, Try.ntmps26
  go_wp2_with fail
  go_ret2
  exact ⟨rfl, Below.refl _ _⟩
theorem newS_one (w : World) :
    Calls Try.prog 26 #[.int .i64 1] w fun e w' => e = .returned (.tuple #[.pointer (some ⟨w.heap.size, 0, none⟩), .int .i64 0]) ∧ Blk w' w.heap.size 98 #[.int .i64 1, .int .i64 0, .string ByteArray.empty, .bool false, .string ByteArray.empty, .bool false] ∧ Below w.heap.size w w' := by
  go_enter Try.func26, Try.ntmps26
  go_wp2_with fail
  go_ret2
  exact ⟨rfl, Blk.new _ _ _, below_al (Below.refl _ _) _⟩
theorem newS_two (w : World) :
    Calls Try.prog 26 #[.int .i64 2] w fun e w' => e = .returned (.tuple #[.pointer (some ⟨w.heap.size, 0, none⟩), .int .i64 0]) ∧ Blk w' w.heap.size 98 #[.int .i64 2, .int .i64 0, .string ByteArray.empty, .bool false, .string ByteArray.empty, .bool false] ∧ Below w.heap.size w w' := by
  go_enter Try.func26, Try.ntmps26
  go_wp2_with fail
  go_ret2
  exact ⟨rfl, Blk.new _ _ _, below_al (Below.refl _ _) _⟩
theorem hereS_nil (w : World) :
    Calls Try.prog 28 #[.pointer none] w fun e w' => e = .returned (.tuple #[.string ByteArray.empty, .bool false]) ∧ Below w.heap.size w w' := by
  go_enter Try.func28, Try.ntmps28
  go_wp2_with fail
  go_ret2
  exact ⟨rfl, Below.refl _ _⟩
theorem hereS_any (g : Nat) (h k : Int) (x : ByteArray) (p : Bool) (y : ByteArray) (q : Bool) (w : World) (hL : LnS w g h k x p y q) :
    Calls Try.prog 28 #[.pointer (some ⟨g, 0, none⟩)] w fun e w' => e = .returned (.tuple #[.string x, .bool p]) ∧ Below w.heap.size w w' := by
  have hB : Blk w g 98 _ := hL
  have c0 := hB.cell 0
  have c1 := hB.cell 1
  have c2 := hB.cell 2
  have c3 := hB.cell 3
  have c4 := hB.cell 4
  have c5 := hB.cell 5
  have cl := hB.lt
  simp only [List.getElem?_toArray, List.getElem?_cons_zero, List.getElem?_cons_succ] at c0 c1 c2 c3 c4 c5
  clear hL hB
  go_enter Try.func28, Try.ntmps28
  go_wp2_with fail
  go_region
  all_goals (go_wp2_with fail)
  all_goals (go_ret2; exact ⟨rfl, by first | exact Below.refl _ _ | exact (Below.refl _ _).drew⟩)
theorem ticksS_nil (w : World) :
    Calls Try.prog 33 #[.pointer none] w fun e w' => e = .returned (.int .i64 0) ∧ Below w.heap.size w w' := by
  go_enter Try.func33, Try.ntmps33
  go_wp2_with fail
  go_ret
  exact ⟨rfl, Below.refl _ _⟩
theorem ticksS_any (g : Nat) (h k : Int) (x : ByteArray) (p : Bool) (y : ByteArray) (q : Bool) (w : World) (hL : LnS w g h k x p y q) :
    Calls Try.prog 33 #[.pointer (some ⟨g, 0, none⟩)] w fun e w' => e = .returned (.int .i64 k) ∧ Below w.heap.size w w' := by
  have hB : Blk w g 98 _ := hL
  have c0 := hB.cell 0
  have c1 := hB.cell 1
  have c2 := hB.cell 2
  have c3 := hB.cell 3
  have c4 := hB.cell 4
  have c5 := hB.cell 5
  have cl := hB.lt
  simp only [List.getElem?_toArray, List.getElem?_cons_zero, List.getElem?_cons_succ] at c0 c1 c2 c3 c4 c5
  clear hL hB
  go_enter Try.func33, Try.ntmps33
  go_wp2_with fail
  go_ret
  exact ⟨rfl, Below.refl _ _⟩
theorem wayS_nil (w : World) :
    Calls Try.prog 30 #[.pointer none] w fun e w' => e = .returned (.slice none 0 0) ∧ Below w.heap.size w w' := by
  go_enter Try.func30, Try.ntmps30
  go_wp2_with fail
  go_ret
  exact ⟨rfl, Below.refl _ _⟩
theorem wayS_none (g : Nat) (h k : Int) (x : ByteArray) (p : Bool) (y : ByteArray) (w : World) (hL : LnS w g h k x p y false) :
    Calls Try.prog 30 #[.pointer (some ⟨g, 0, none⟩)] w fun e w' => e = .returned (.slice none 0 0) ∧ Below w.heap.size w w' := by
  have hB : Blk w g 98 _ := hL
  have c0 := hB.cell 0
  have c1 := hB.cell 1
  have c2 := hB.cell 2
  have c3 := hB.cell 3
  have c4 := hB.cell 4
  have c5 := hB.cell 5
  have cl := hB.lt
  simp only [List.getElem?_toArray, List.getElem?_cons_zero, List.getElem?_cons_succ] at c0 c1 c2 c3 c4 c5
  clear hL hB
  go_enter Try.func30, Try.ntmps30
  go_wp2_with fail
  go_ret
  exact ⟨rfl, Below.refl _ _⟩
theorem wayS_some (g : Nat) (h k : Int) (x : ByteArray) (p : Bool) (y : ByteArray) (w : World) (hL : LnS w g h k x p y true) :
    Calls Try.prog 30 #[.pointer (some ⟨g, 0, none⟩)] w fun e w' => e = .returned (.slice (some ⟨w.heap.size, 0, none⟩) 1 1) ∧ Blk w' w.heap.size 9 #[.string y] ∧ Below w.heap.size w w' := by
  have hB : Blk w g 98 _ := hL
  have c0 := hB.cell 0
  have c1 := hB.cell 1
  have c2 := hB.cell 2
  have c3 := hB.cell 3
  have c4 := hB.cell 4
  have c5 := hB.cell 5
  have cl := hB.lt
  simp only [List.getElem?_toArray, List.getElem?_cons_zero, List.getElem?_cons_succ] at c0 c1 c2 c3 c4 c5
  clear hL hB
  go_enter Try.func30, Try.ntmps30
  go_wp2_with fail
  go_ret
  exact ⟨rfl, Blk.new _ _ _, below_al (Below.refl _ _) _⟩
theorem sentS_none (A : Option Addr) (c : Nat) (w : World) :
    Calls Try.prog 42 #[.slice A 0 c] w fun e w' => e = .returned (.agg #[.string ByteArray.empty, .bool false]) ∧ Below w.heap.size w w' := by
  go_enter Try.func42, Try.ntmps42
  go_wp2_with fail
  refine bodyPost_ret (v := .agg #[.string ByteArray.empty, .bool false]) (by simp [results, Try.results42, go_sem] <;> rfl) rfl ⟨rfl, ?_⟩
  first | exact below_al (Below.refl _ _) _ | exact (Below.refl _ _).alloc (Nat.le_refl _) _
theorem sentS_one (b o c : Nat) (x : ByteArray) (w : World) (hx : w.cell? ⟨b, o, none⟩ = some (.string x)) (hb : b < w.heap.size) :
    Calls Try.prog 42 #[.slice (some ⟨b, o, none⟩) 1 c] w fun e w' => e = .returned (.agg #[.string x, .bool true]) ∧ Below w.heap.size w w' := by
  go_enter Try.func42, Try.ntmps42
  go_wp2_with fail
  refine bodyPost_ret (v := .agg #[.string x, .bool true]) (by simp [results, Try.results42, go_sem] <;> rfl) rfl ⟨rfl, ?_⟩
  first | exact below_al (Below.refl _ _) _ | exact (Below.refl _ _).alloc (Nat.le_refl _) _
theorem endS_near (g : Nat) (k : Int) (x : ByteArray) (p : Bool) (y : ByteArray) (q : Bool) (z : ByteArray) (r : Bool) (w : World) (hL : LnS w g 1 k x p y q) (hk : 0 ≤ k) (hk' : k < 4611686018427387904) :
    Calls Try.prog 41 #[.pointer (some ⟨g, 0, none⟩), .agg #[.string z, .bool r]] w fun e w' => e = .returned (.tuple #[]) ∧ LnS w' g 1 (k + 1) z r y q ∧ But g w w' := by
  have hB : Blk w g 98 _ := hL
  have hA := hB.alloc (.cells #[.string z, .bool r] 96)
  have hN := Blk.new w 96 #[.string z, .bool r]
  have hg := hB.lt
  have hne : g ≠ w.heap.size := Nat.ne_of_lt hg
  have hw : IntKind.i64.wrap (k + 1) = k + 1 := IntWalk.i64_in _ (by omega)
  have c0 := hB.cell 0
  have c1 := hB.cell 1
  have c2 := hB.cell 2
  have c3 := hB.cell 3
  have c4 := hB.cell 4
  have c5 := hB.cell 5
  have cl := hB.lt
  simp only [List.getElem?_toArray, List.getElem?_cons_zero, List.getElem?_cons_succ] at c0 c1 c2 c3 c4 c5
  have f0 := hB.frozen 0
  have f1 := hB.frozen 1
  have f2 := hB.frozen 2
  have f3 := hB.frozen 3
  have f4 := hB.frozen 4
  have f5 := hB.frozen 5
  clear hk hk' hL
  go_enter Try.func41, Try.ntmps41
  go_wp2_with fail
  go_end0
  refine ⟨rfl, ?_, ?_⟩
  · exact ((((hB.set_ 2 _).set_ 3 _).set_ 1 _).alloc _)
  · exact But.al hg (((But.one 2 _).set 3 _).set 1 _) _
theorem endS_far (g : Nat) (k : Int) (x : ByteArray) (p : Bool) (y : ByteArray) (q : Bool) (z : ByteArray) (r : Bool) (w : World) (hL : LnS w g 2 k x p y q) (hk : 0 ≤ k) (hk' : k < 4611686018427387904) :
    Calls Try.prog 41 #[.pointer (some ⟨g, 0, none⟩), .agg #[.string z, .bool r]] w fun e w' => e = .returned (.tuple #[]) ∧ LnS w' g 2 (k + 1) y q z r ∧ But g w w' := by
  have hB : Blk w g 98 _ := hL
  have hA := hB.alloc (.cells #[.string z, .bool r] 96)
  have hN := Blk.new w 96 #[.string z, .bool r]
  have hg := hB.lt
  have hne : g ≠ w.heap.size := Nat.ne_of_lt hg
  have hw : IntKind.i64.wrap (k + 1) = k + 1 := IntWalk.i64_in _ (by omega)
  have c0 := hB.cell 0
  have c1 := hB.cell 1
  have c2 := hB.cell 2
  have c3 := hB.cell 3
  have c4 := hB.cell 4
  have c5 := hB.cell 5
  have cl := hB.lt
  simp only [List.getElem?_toArray, List.getElem?_cons_zero, List.getElem?_cons_succ] at c0 c1 c2 c3 c4 c5
  have f0 := hB.frozen 0
  have f1 := hB.frozen 1
  have f2 := hB.frozen 2
  have f3 := hB.frozen 3
  have f4 := hB.frozen 4
  have f5 := hB.frozen 5
  clear hk hk' hL
  go_enter Try.func41, Try.ntmps41
  go_wp2_with fail
  go_region
  all_goals (go_wp2_with fail)
  all_goals go_end0
  all_goals refine ⟨rfl, ?_, ?_⟩
  · exact (((((hB.set_ 2 _).set_ 3 _).set_ 4 _).set_ 5 _).set_ 1 _).alloc _
  · exact (But.al hg (((((But.one 2 _).set 3 _).set 4 _).set 5 _).set 1 _) _).drew
/-- A line of []string, as it lies in its block. -/
def LnL (w : World) (g : Nat) (h k : Int) (x : (Option Addr × Nat × Nat)) (p : Bool) (y : (Option Addr × Nat × Nat)) (q : Bool) : Prop := Blk w g 102 #[.int .i64 h, .int .i64 k, .slice x.1 x.2.1 x.2.2, .bool p, .slice y.1 y.2.1 y.2.2, .bool q]
theorem newL_no (h : Int) (w : World) (h1 : h ≠ 1) (h2 : h ≠ 2) :
    Calls Try.prog 27 #[.int .i64 h] w fun e w' => e = .returned (.tuple #[.pointer none, .int .i64 1]) ∧ Below w.heap.size w w' := by
  have q1 : (h != 1) = true := bne_iff_ne.2 h1
  have q2 : (h != 2) = true := bne_iff_ne.2 h2
  go_enter Try.func27, Try.ntmps27
  go_wp2_with fail
  go_ret2
  exact ⟨rfl, Below.refl _ _⟩
theorem newL_one (w : World) :
    Calls Try.prog 27 #[.int .i64 1] w fun e w' => e = .returned (.tuple #[.pointer (some ⟨w.heap.size, 0, none⟩), .int .i64 0]) ∧ Blk w' w.heap.size 102 #[.int .i64 1, .int .i64 0, .slice none 0 0, .bool false, .slice none 0 0, .bool false] ∧ Below w.heap.size w w' := by
  go_enter Try.func27, Try.ntmps27
  go_wp2_with fail
  go_ret2
  exact ⟨rfl, Blk.new _ _ _, below_al (Below.refl _ _) _⟩
theorem newL_two (w : World) :
    Calls Try.prog 27 #[.int .i64 2] w fun e w' => e = .returned (.tuple #[.pointer (some ⟨w.heap.size, 0, none⟩), .int .i64 0]) ∧ Blk w' w.heap.size 102 #[.int .i64 2, .int .i64 0, .slice none 0 0, .bool false, .slice none 0 0, .bool false] ∧ Below w.heap.size w w' := by
  go_enter Try.func27, Try.ntmps27
  go_wp2_with fail
  go_ret2
  exact ⟨rfl, Blk.new _ _ _, below_al (Below.refl _ _) _⟩
theorem hereL_nil (w : World) :
    Calls Try.prog 29 #[.pointer none] w fun e w' => e = .returned (.tuple #[.slice none 0 0, .bool false]) ∧ Below w.heap.size w w' := by
  go_enter Try.func29, Try.ntmps29
  go_wp2_with fail
  go_ret2
  exact ⟨rfl, Below.refl _ _⟩
theorem hereL_any (g : Nat) (h k : Int) (x : (Option Addr × Nat × Nat)) (p : Bool) (y : (Option Addr × Nat × Nat)) (q : Bool) (w : World) (hL : LnL w g h k x p y q) :
    Calls Try.prog 29 #[.pointer (some ⟨g, 0, none⟩)] w fun e w' => e = .returned (.tuple #[.slice x.1 x.2.1 x.2.2, .bool p]) ∧ Below w.heap.size w w' := by
  have hB : Blk w g 102 _ := hL
  have c0 := hB.cell 0
  have c1 := hB.cell 1
  have c2 := hB.cell 2
  have c3 := hB.cell 3
  have c4 := hB.cell 4
  have c5 := hB.cell 5
  have cl := hB.lt
  simp only [List.getElem?_toArray, List.getElem?_cons_zero, List.getElem?_cons_succ] at c0 c1 c2 c3 c4 c5
  clear hL hB
  go_enter Try.func29, Try.ntmps29
  go_wp2_with fail
  go_region
  all_goals (go_wp2_with fail)
  all_goals (go_ret2; exact ⟨rfl, by first | exact Below.refl _ _ | exact (Below.refl _ _).drew⟩)
theorem sentL_none (A : Option Addr) (c : Nat) (w : World) :
    Calls Try.prog 44 #[.slice A 0 c] w fun e w' => e = .returned (.agg #[.slice none 0 0, .bool false]) ∧ Below w.heap.size w w' := by
  go_enter Try.func44, Try.ntmps44
  go_wp2_with fail
  refine bodyPost_ret (v := .agg #[.slice none 0 0, .bool false]) (by simp [results, Try.results44, go_sem] <;> rfl) rfl ⟨rfl, ?_⟩
  first | exact below_al (Below.refl _ _) _ | exact (Below.refl _ _).alloc (Nat.le_refl _) _
theorem sentL_one (b o c : Nat) (x : (Option Addr × Nat × Nat)) (w : World) (hx : w.cell? ⟨b, o, none⟩ = some (.slice x.1 x.2.1 x.2.2)) (hb : b < w.heap.size) :
    Calls Try.prog 44 #[.slice (some ⟨b, o, none⟩) 1 c] w fun e w' => e = .returned (.agg #[.slice x.1 x.2.1 x.2.2, .bool true]) ∧ Below w.heap.size w w' := by
  go_enter Try.func44, Try.ntmps44
  go_wp2_with fail
  refine bodyPost_ret (v := .agg #[.slice x.1 x.2.1 x.2.2, .bool true]) (by simp [results, Try.results44, go_sem] <;> rfl) rfl ⟨rfl, ?_⟩
  first | exact below_al (Below.refl _ _) _ | exact (Below.refl _ _).alloc (Nat.le_refl _) _
theorem endL_near (g : Nat) (k : Int) (x : (Option Addr × Nat × Nat)) (p : Bool) (y : (Option Addr × Nat × Nat)) (q : Bool) (z : (Option Addr × Nat × Nat)) (r : Bool) (w : World) (hL : LnL w g 1 k x p y q) (hk : 0 ≤ k) (hk' : k < 4611686018427387904) :
    Calls Try.prog 43 #[.pointer (some ⟨g, 0, none⟩), .agg #[.slice z.1 z.2.1 z.2.2, .bool r]] w fun e w' => e = .returned (.tuple #[]) ∧ LnL w' g 1 (k + 1) z r y q ∧ But g w w' := by
  have hB : Blk w g 102 _ := hL
  have hA := hB.alloc (.cells #[.slice z.1 z.2.1 z.2.2, .bool r] 100)
  have hN := Blk.new w 100 #[.slice z.1 z.2.1 z.2.2, .bool r]
  have hg := hB.lt
  have hne : g ≠ w.heap.size := Nat.ne_of_lt hg
  have hw : IntKind.i64.wrap (k + 1) = k + 1 := IntWalk.i64_in _ (by omega)
  have c0 := hB.cell 0
  have c1 := hB.cell 1
  have c2 := hB.cell 2
  have c3 := hB.cell 3
  have c4 := hB.cell 4
  have c5 := hB.cell 5
  have cl := hB.lt
  simp only [List.getElem?_toArray, List.getElem?_cons_zero, List.getElem?_cons_succ] at c0 c1 c2 c3 c4 c5
  have f0 := hB.frozen 0
  have f1 := hB.frozen 1
  have f2 := hB.frozen 2
  have f3 := hB.frozen 3
  have f4 := hB.frozen 4
  have f5 := hB.frozen 5
  clear hk hk' hL
  go_enter Try.func43, Try.ntmps43
  go_wp2_with fail
  go_end0
  refine ⟨rfl, ?_, ?_⟩
  · exact ((((hB.set_ 2 _).set_ 3 _).set_ 1 _).alloc _)
  · exact But.al hg (((But.one 2 _).set 3 _).set 1 _) _
theorem endL_far (g : Nat) (k : Int) (x : (Option Addr × Nat × Nat)) (p : Bool) (y : (Option Addr × Nat × Nat)) (q : Bool) (z : (Option Addr × Nat × Nat)) (r : Bool) (w : World) (hL : LnL w g 2 k x p y q) (hk : 0 ≤ k) (hk' : k < 4611686018427387904) :
    Calls Try.prog 43 #[.pointer (some ⟨g, 0, none⟩), .agg #[.slice z.1 z.2.1 z.2.2, .bool r]] w fun e w' => e = .returned (.tuple #[]) ∧ LnL w' g 2 (k + 1) y q z r ∧ But g w w' := by
  have hB : Blk w g 102 _ := hL
  have hA := hB.alloc (.cells #[.slice z.1 z.2.1 z.2.2, .bool r] 100)
  have hN := Blk.new w 100 #[.slice z.1 z.2.1 z.2.2, .bool r]
  have hg := hB.lt
  have hne : g ≠ w.heap.size := Nat.ne_of_lt hg
  have hw : IntKind.i64.wrap (k + 1) = k + 1 := IntWalk.i64_in _ (by omega)
  have c0 := hB.cell 0
  have c1 := hB.cell 1
  have c2 := hB.cell 2
  have c3 := hB.cell 3
  have c4 := hB.cell 4
  have c5 := hB.cell 5
  have cl := hB.lt
  simp only [List.getElem?_toArray, List.getElem?_cons_zero, List.getElem?_cons_succ] at c0 c1 c2 c3 c4 c5
  have f0 := hB.frozen 0
  have f1 := hB.frozen 1
  have f2 := hB.frozen 2
  have f3 := hB.frozen 3
  have f4 := hB.frozen 4
  have f5 := hB.frozen 5
  clear hk hk' hL
  go_enter Try.func43, Try.ntmps43
  go_wp2_with fail
  go_region
  all_goals (go_wp2_with fail)
  all_goals go_end0
  all_goals refine ⟨rfl, ?_, ?_⟩
  · exact (((((hB.set_ 2 _).set_ 3 _).set_ 4 _).set_ 5 _).set_ 1 _).alloc _
  · exact (But.al hg (((((But.one 2 _).set 3 _).set 4 _).set 5 _).set 1 _) _).drew
end Go.Proofs.Ytlbpplibngdncaa
