/-
  The walk of the law RingsSteps: true, whatever came in. Condition: the table of directions is as the program's text lays it.
-/
import Derived.Test.YthjplgiinkijcaaDoorRgLives
import Derived.Test.YthjplgiinkijcaaDoorRgRef4
import Derived.Test.YthjplgiinkijcaaDoorReg
namespace Go.Proofs.YthjplgiinkijcaaDoor
open Go.RowKit Rg

set_option maxRecDepth 100000 in
set_option maxHeartbeats 4000000 in
theorem ringsSteps_walk (n d p0 p1 : Int) (w : World) (hw : Ways w) (_ : (Lit.int .i64 n).wf = true) (hd : (Lit.int .u8 d).wf = true) (_ : (Lit.int .i64 p0).wf = true) (_ : (Lit.int .i64 p1).wf = true) :
    Calls Tryd.prog 3 #[.int .i64 n, .int .u8 d, .agg #[.int .i64 p0, .int .i64 p1]] w fun e w' => e = .returned (.bool true) ∧ Below w.heap.size w w' := by
  have hbd := bounds_u8 hd
  have HS1 := Lib.hid (fun W hW => step_any n d p0 p1 W hW hbd.1 hbd.2)
  have HS2 := Lib.hid (fun W => refStep_any n d p0 p1 W hbd.1 hbd.2)
  have HD1 := Lib.hid (fun W hW => dist_any n d p0 p1 W hW hbd.1 hbd.2)
  have HD2 := Lib.hid (fun W => refDist_any n d p0 p1 W hbd.1 hbd.2)
  obtain ⟨s1, e1⟩ : ∃ s, s = stepM n d p0 p1 := ⟨_, rfl⟩
  obtain ⟨s2, e2⟩ : ∃ s, s = distM n d p0 p1 := ⟨_, rfl⟩
  rw [← e1] at HS1 HS2
  rw [← e2] at HD1 HD2
  clear e1 e2 hd hbd
  have hu := hw.al (.cells #[.int .i64 p0, .int .i64 p1] 22)
  have hB := below_al (Below.refl w.heap.size w) (.cells #[.int .i64 p0, .int .i64 p1] 22)
  have hK0 := Blk.new w 22 #[.int .i64 p0, .int .i64 p1]
  have hc0 := hK0.cell 0
  have hc1 := hK0.cell 1
  simp only [List.getElem?_toArray, List.getElem?_cons_zero, List.getElem?_cons_succ] at hc0 hc1
  clear hK0 hw
  go_enter Tryd.func3, Tryd.ntmps3
  go_wp2_with fail
  refine Reg.wp_slots (fun t => t == 6 || decide (9 ≤ t)) (by kernel_rfl) (by kernel_rfl) (by kernel_rfl) (fun zz => (Reg.tbl [
    (9, .is (.int .i64 n)),
    (10, .is (.int .u8 d)),
    (11, .is (.pointer (some ⟨w.heap.size, 0, none⟩))),
    (12, .is (.int .i64 p0)),
    (13, .is (.pointer (some ⟨w.heap.size, 1, none⟩))),
    (14, .is (.int .i64 p1)),
    (15, .is (.int .i64 s1)),
    (16, .is (.int .i64 n)),
    (17, .is (.int .u8 d)),
    (18, .is (.pointer (some ⟨w.heap.size, 0, none⟩))),
    (19, .is (.int .i64 p0)),
    (20, .is (.pointer (some ⟨w.heap.size, 1, none⟩))),
    (21, .is (.int .i64 p1)),
    (22, .is (.int .i64 s1)),
    (23, .is (.bool true)),
    (24, .is (.bool true)),
    (25, .is (.int .i64 n)),
    (26, .is (.int .u8 d)),
    (27, .is (.pointer (some ⟨w.heap.size, 0, none⟩))),
    (28, .is (.int .i64 p0)),
    (29, .is (.pointer (some ⟨w.heap.size, 1, none⟩))),
    (30, .is (.int .i64 p1)),
    (31, .is (.int .i64 s2)),
    (32, .is (.int .i64 n)),
    (33, .is (.int .u8 d)),
    (34, .is (.pointer (some ⟨w.heap.size, 0, none⟩))),
    (35, .is (.int .i64 p0)),
    (36, .is (.pointer (some ⟨w.heap.size, 1, none⟩))),
    (37, .is (.int .i64 p1)),
    (38, .is (.int .i64 s2)),
    (39, .is (.bool true)),
    (40, .is (.bool true)),
    (41, .is (.bool true)),
    (42, .is (.bool true)),
    (43, .is (.bool true)),
    (6, .is (.bool true))] zz).P) (fun zz => (Reg.tbl _ zz).on) ?_ ?_
  · simp only [Reg.frame, Reg.over, Nat.reduceAdd, Nat.reduceBEq, Nat.reduceLeDiff, decide_true, decide_false, Bool.or_true, Bool.or_false, if_true, Bool.false_eq_true, if_false]
    refine ⟨?_, ?_, ?_, ?_, ?_, ?_, ?_, ?_, ?_, ?_, ?_, ?_, ?_, ?_, ?_, ?_, ?_, ?_, ?_, ?_, ?_, ?_, ?_, ?_, ?_, ?_, ?_, ?_, ?_, ?_, ?_, ?_, ?_, ?_, ?_, ?_, trivial⟩
    · intro x u hbu hd
      refine wpOp_step rfl fun K hK => ?_
      go_simp
      exact hK _ _ ⟨_, rfl, Below.refl _ _, fun d hd => by cases hd; exact rfl⟩
    · intro x u hbu hd
      refine wpOp_step rfl fun K hK => ?_
      go_simp
      exact hK _ _ ⟨_, rfl, Below.refl _ _, fun d hd => by cases hd; exact rfl⟩
    · intro x u hbu hd
      refine wpOp_step rfl fun K hK => ?_
      go_simp
      exact hK _ _ ⟨_, rfl, Below.refl _ _, fun d hd => by cases hd; exact rfl⟩
    · intro x u hbu hd
      have h11 : x 11 = .pointer (some ⟨w.heap.size, 0, none⟩) := hd 2 (by decide)
      have hc := (hbu.cell (p := ⟨w.heap.size, 0, none⟩) (by simp)).trans hc0
      refine wpOp_step rfl fun K hK => ?_
      simp only [h11] at hK ⊢
      go_simp
      exact hK _ _ ⟨_, rfl, Below.refl _ _, fun d hd => by cases hd; exact rfl⟩
    · intro x u hbu hd
      refine wpOp_step rfl fun K hK => ?_
      go_simp
      exact hK _ _ ⟨_, rfl, Below.refl _ _, fun d hd => by cases hd; exact rfl⟩
    · intro x u hbu hd
      have h13 : x 13 = .pointer (some ⟨w.heap.size, 1, none⟩) := hd 4 (by decide)
      have hc := (hbu.cell (p := ⟨w.heap.size, 1, none⟩) (by simp)).trans hc1
      refine wpOp_step rfl fun K hK => ?_
      simp only [h13] at hK ⊢
      go_simp
      exact hK _ _ ⟨_, rfl, Below.refl _ _, fun d hd => by cases hd; exact rfl⟩
    · intro x u hbu hd
      have h9 : x 9 = .int .i64 n := hd 0 (by decide)
      have h10 : x 10 = .int .u8 d := hd 1 (by decide)
      have h12 : x 12 = .int .i64 p0 := hd 3 (by decide)
      have h14 : x 14 = .int .i64 p1 := hd 5 (by decide)
      refine wpOp_step rfl fun K hK => ?_
      simp only [h9, h10, h12, h14] at hK ⊢
      go_simp
      with_reducible refine (HS1.out u (hu.on hbu)).mono ?_
      rintro e u' ⟨rfl, hb'⟩
      exact hK _ _ ⟨_, rfl, hb', fun d hd => by cases hd; exact rfl⟩
    · intro x u hbu hd
      refine wpOp_step rfl fun K hK => ?_
      go_simp
      exact hK _ _ ⟨_, rfl, Below.refl _ _, fun d hd => by cases hd; exact rfl⟩
    · intro x u hbu hd
      refine wpOp_step rfl fun K hK => ?_
      go_simp
      exact hK _ _ ⟨_, rfl, Below.refl _ _, fun d hd => by cases hd; exact rfl⟩
    · intro x u hbu hd
      refine wpOp_step rfl fun K hK => ?_
      go_simp
      exact hK _ _ ⟨_, rfl, Below.refl _ _, fun d hd => by cases hd; exact rfl⟩
    · intro x u hbu hd
      have h18 : x 18 = .pointer (some ⟨w.heap.size, 0, none⟩) := hd 9 (by decide)
      have hc := (hbu.cell (p := ⟨w.heap.size, 0, none⟩) (by simp)).trans hc0
      refine wpOp_step rfl fun K hK => ?_
      simp only [h18] at hK ⊢
      go_simp
      exact hK _ _ ⟨_, rfl, Below.refl _ _, fun d hd => by cases hd; exact rfl⟩
    · intro x u hbu hd
      refine wpOp_step rfl fun K hK => ?_
      go_simp
      exact hK _ _ ⟨_, rfl, Below.refl _ _, fun d hd => by cases hd; exact rfl⟩
    · intro x u hbu hd
      have h20 : x 20 = .pointer (some ⟨w.heap.size, 1, none⟩) := hd 11 (by decide)
      have hc := (hbu.cell (p := ⟨w.heap.size, 1, none⟩) (by simp)).trans hc1
      refine wpOp_step rfl fun K hK => ?_
      simp only [h20] at hK ⊢
      go_simp
      exact hK _ _ ⟨_, rfl, Below.refl _ _, fun d hd => by cases hd; exact rfl⟩
    · intro x u hbu hd
      have h16 : x 16 = .int .i64 n := hd 7 (by decide)
      have h17 : x 17 = .int .u8 d := hd 8 (by decide)
      have h19 : x 19 = .int .i64 p0 := hd 10 (by decide)
      have h21 : x 21 = .int .i64 p1 := hd 12 (by decide)
      refine wpOp_step rfl fun K hK => ?_
      simp only [h16, h17, h19, h21] at hK ⊢
      go_simp
      with_reducible refine (HS2.out u).mono ?_
      rintro e u' ⟨rfl, rfl⟩
      exact hK _ _ ⟨_, rfl, Below.refl _ _, fun d hd => by cases hd; exact rfl⟩
    · intro x u hbu hd
      have h15 : x 15 = .int .i64 s1 := hd 6 (by decide)
      have h22 : x 22 = .int .i64 s1 := hd 13 (by decide)
      refine wpOp_step rfl fun K hK => ?_
      simp only [h15, h22] at hK ⊢
      go_simp
      exact hK _ _ ⟨_, rfl, Below.refl _ _, fun d hd => by cases hd; exact rfl⟩
    · intro x u hbu hd
      have h23 : x 23 = .bool true := hd 14 (by decide)
      refine wpOp_step rfl fun K hK => ?_
      simp only [h23] at hK ⊢
      go_simp
      exact hK _ _ ⟨_, rfl, Below.refl _ _, fun d hd => by cases hd; exact rfl⟩
    · intro x u hbu hd
      have h24 : x 24 = .bool true := hd 15 (by decide)
      refine wpOp_step rfl fun K hK => ?_
      simp only [h24] at hK ⊢
      go_simp
      exact hK _ _ ⟨_, rfl, Below.refl _ _, fun d hd => by cases hd; exact rfl⟩
    · intro x u hbu hd
      have h24 : x 24 = .bool true := hd 15 (by decide)
      refine wpOp_step rfl fun K hK => ?_
      simp only [h24] at hK ⊢
      go_simp
      exact hK _ _ ⟨_, rfl, Below.refl _ _, fun d hd => by cases hd; exact rfl⟩
    · intro x u hbu hd
      have h24 : x 24 = .bool true := hd 15 (by decide)
      refine wpOp_step rfl fun K hK => ?_
      simp only [h24] at hK ⊢
      go_simp
      exact hK _ _ ⟨_, rfl, Below.refl _ _, fun d hd => by cases hd; exact rfl⟩
    · intro x u hbu hd
      have h27 : x 27 = .pointer (some ⟨w.heap.size, 0, none⟩) := hd 18 (by decide)
      have h24 : x 24 = .bool true := hd 15 (by decide)
      have hc := (hbu.cell (p := ⟨w.heap.size, 0, none⟩) (by simp)).trans hc0
      refine wpOp_step rfl fun K hK => ?_
      simp only [h27, h24] at hK ⊢
      go_simp
      exact hK _ _ ⟨_, rfl, Below.refl _ _, fun d hd => by cases hd; exact rfl⟩
    · intro x u hbu hd
      have h24 : x 24 = .bool true := hd 15 (by decide)
      refine wpOp_step rfl fun K hK => ?_
      simp only [h24] at hK ⊢
      go_simp
      exact hK _ _ ⟨_, rfl, Below.refl _ _, fun d hd => by cases hd; exact rfl⟩
    · intro x u hbu hd
      have h29 : x 29 = .pointer (some ⟨w.heap.size, 1, none⟩) := hd 20 (by decide)
      have h24 : x 24 = .bool true := hd 15 (by decide)
      have hc := (hbu.cell (p := ⟨w.heap.size, 1, none⟩) (by simp)).trans hc1
      refine wpOp_step rfl fun K hK => ?_
      simp only [h29, h24] at hK ⊢
      go_simp
      exact hK _ _ ⟨_, rfl, Below.refl _ _, fun d hd => by cases hd; exact rfl⟩
    · intro x u hbu hd
      have h25 : x 25 = .int .i64 n := hd 16 (by decide)
      have h26 : x 26 = .int .u8 d := hd 17 (by decide)
      have h28 : x 28 = .int .i64 p0 := hd 19 (by decide)
      have h30 : x 30 = .int .i64 p1 := hd 21 (by decide)
      have h24 : x 24 = .bool true := hd 15 (by decide)
      refine wpOp_step rfl fun K hK => ?_
      simp only [h25, h26, h28, h30, h24] at hK ⊢
      go_simp
      with_reducible refine (HD1.out u (hu.on hbu)).mono ?_
      rintro e u' ⟨rfl, hb'⟩
      exact hK _ _ ⟨_, rfl, hb', fun d hd => by cases hd; exact rfl⟩
    · intro x u hbu hd
      have h24 : x 24 = .bool true := hd 15 (by decide)
      refine wpOp_step rfl fun K hK => ?_
      simp only [h24] at hK ⊢
      go_simp
      exact hK _ _ ⟨_, rfl, Below.refl _ _, fun d hd => by cases hd; exact rfl⟩
    · intro x u hbu hd
      have h24 : x 24 = .bool true := hd 15 (by decide)
      refine wpOp_step rfl fun K hK => ?_
      simp only [h24] at hK ⊢
      go_simp
      exact hK _ _ ⟨_, rfl, Below.refl _ _, fun d hd => by cases hd; exact rfl⟩
    · intro x u hbu hd
      have h24 : x 24 = .bool true := hd 15 (by decide)
      refine wpOp_step rfl fun K hK => ?_
      simp only [h24] at hK ⊢
      go_simp
      exact hK _ _ ⟨_, rfl, Below.refl _ _, fun d hd => by cases hd; exact rfl⟩
    · intro x u hbu hd
      have h34 : x 34 = .pointer (some ⟨w.heap.size, 0, none⟩) := hd 25 (by decide)
      have h24 : x 24 = .bool true := hd 15 (by decide)
      have hc := (hbu.cell (p := ⟨w.heap.size, 0, none⟩) (by simp)).trans hc0
      refine wpOp_step rfl fun K hK => ?_
      simp only [h34, h24] at hK ⊢
      go_simp
      exact hK _ _ ⟨_, rfl, Below.refl _ _, fun d hd => by cases hd; exact rfl⟩
    · intro x u hbu hd
      have h24 : x 24 = .bool true := hd 15 (by decide)
      refine wpOp_step rfl fun K hK => ?_
      simp only [h24] at hK ⊢
      go_simp
      exact hK _ _ ⟨_, rfl, Below.refl _ _, fun d hd => by cases hd; exact rfl⟩
    · intro x u hbu hd
      have h36 : x 36 = .pointer (some ⟨w.heap.size, 1, none⟩) := hd 27 (by decide)
      have h24 : x 24 = .bool true := hd 15 (by decide)
      have hc := (hbu.cell (p := ⟨w.heap.size, 1, none⟩) (by simp)).trans hc1
      refine wpOp_step rfl fun K hK => ?_
      simp only [h36, h24] at hK ⊢
      go_simp
      exact hK _ _ ⟨_, rfl, Below.refl _ _, fun d hd => by cases hd; exact rfl⟩
    · intro x u hbu hd
      have h32 : x 32 = .int .i64 n := hd 23 (by decide)
      have h33 : x 33 = .int .u8 d := hd 24 (by decide)
      have h35 : x 35 = .int .i64 p0 := hd 26 (by decide)
      have h37 : x 37 = .int .i64 p1 := hd 28 (by decide)
      have h24 : x 24 = .bool true := hd 15 (by decide)
      refine wpOp_step rfl fun K hK => ?_
      simp only [h32, h33, h35, h37, h24] at hK ⊢
      go_simp
      with_reducible refine (HD2.out u).mono ?_
      rintro e u' ⟨rfl, rfl⟩
      exact hK _ _ ⟨_, rfl, Below.refl _ _, fun d hd => by cases hd; exact rfl⟩
    · intro x u hbu hd
      have h31 : x 31 = .int .i64 s2 := hd 22 (by decide)
      have h38 : x 38 = .int .i64 s2 := hd 29 (by decide)
      have h24 : x 24 = .bool true := hd 15 (by decide)
      refine wpOp_step rfl fun K hK => ?_
      simp only [h31, h38, h24] at hK ⊢
      go_simp
      exact hK _ _ ⟨_, rfl, Below.refl _ _, fun d hd => by cases hd; exact rfl⟩
    · intro x u hbu hd
      have h24 : x 24 = .bool true := hd 15 (by decide)
      have h39 : x 39 = .bool true := hd 30 (by decide)
      refine wpOp_step rfl fun K hK => ?_
      simp only [h24, h39] at hK ⊢
      go_simp
      exact hK _ _ ⟨_, rfl, Below.refl _ _, fun d hd => by cases hd; exact rfl⟩
    · intro x u hbu hd
      have h40 : x 40 = .bool true := hd 31 (by decide)
      refine wpOp_step rfl fun K hK => ?_
      simp only [h40] at hK ⊢
      go_simp
      exact hK _ _ ⟨_, rfl, Below.refl _ _, fun d hd => by cases hd; exact rfl⟩
    · intro x u hbu hd
      have h41 : x 41 = .bool true := hd 32 (by decide)
      refine wpOp_step rfl fun K hK => ?_
      simp only [h41] at hK ⊢
      go_simp
      with_reducible refine (lives_any u (hu.on hbu)).mono ?_
      rintro e u' ⟨rfl, hb'⟩
      exact hK _ _ ⟨_, rfl, hb', fun d hd => by cases hd; exact rfl⟩
    · intro x u hbu hd
      have h41 : x 41 = .bool true := hd 32 (by decide)
      have h42 : x 42 = .bool true := hd 33 (by decide)
      refine wpOp_step rfl fun K hK => ?_
      simp only [h41, h42] at hK ⊢
      go_simp
      exact hK _ _ ⟨_, rfl, Below.refl _ _, fun d hd => by cases hd; exact rfl⟩
    · intro x u hbu hd
      have h43 : x 43 = .bool true := hd 34 (by decide)
      refine wpOp_step rfl fun K hK => ?_
      simp only [h43] at hK ⊢
      go_simp
      exact hK _ _ ⟨_, rfl, Below.refl _ _, fun d hd => by cases hd; exact rfl⟩
  · intro x u hbu hall
    have h6 : x 6 = .bool true := hall 35 (by decide)
    simp only [Reg.frame, Reg.over, Nat.reduceAdd, Nat.reduceBEq, Nat.reduceLeDiff, decide_true, decide_false, Bool.or_true, Bool.or_false, if_true, Bool.false_eq_true, if_false, h6]
    go_wp2_with fail
    go_ret
    exact ⟨rfl, below_then hB hbu⟩
end Go.Proofs.YthjplgiinkijcaaDoor
