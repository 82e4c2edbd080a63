/-
  The walk of the law RingsLinks: true, whatever came in. Condition: the table of directions is as the program's text lays it.
-/
import Derived.Test.YthjplgiinkijcaaDoorRgLives
import Derived.Test.YthjplgiinkijcaaDoorRgRef4
import Derived.Test.YthjplgiinkijcaaDoorReg
namespace Go.Proofs.YthjplgiinkijcaaDoor
open Go.RowKit Rg

set_option maxRecDepth 100000 in
set_option maxHeartbeats 4000000 in
theorem ringsLinks_walk (n d p0 p1 : Int) (w : World) (hw : Ways w) (_ : (Lit.int .i64 n).wf = true) (hd : (Lit.int .u8 d).wf = true) (h0 : (Lit.int .i64 p0).wf = true) (_ : (Lit.int .i64 p1).wf = true) :
    Calls Tryd.prog 4 #[.int .i64 n, .int .u8 d, .agg #[.int .i64 p0, .int .i64 p1]] w fun e w' => e = .returned (.bool true) ∧ Below w.heap.size w w' := by
  have hbd := bounds_u8 hd
  have hb0 := bounds_i64 h0
  have HE1 := Lib.hid (fun W hW => ends_any n p0 W hW hb0.1 hb0.2)
  have HE2 := Lib.hid (fun W => refEnds_any n p0 W)
  have HS1 := Lib.hid (fun W hW => source_any n d p0 p1 W hW hbd.1 hbd.2)
  have HS2 := Lib.hid (fun W => refSource_any n d p0 p1 W hbd.1)
  have HL1 := Lib.hid (fun W => link_any n d p0 p1 W hbd.1 hbd.2)
  have HL2 := Lib.hid (fun W => refLink_any n d p0 p1 W hbd.1)
  obtain ⟨s1, e1⟩ : ∃ s, s = sourceM n d p0 p1 := ⟨_, rfl⟩
  obtain ⟨s2, e2⟩ : ∃ s, s = linkM n d p0 p1 := ⟨_, rfl⟩
  rw [← e1] at HS1 HS2
  rw [← e2] at HL1 HL2
  obtain ⟨a1, f1⟩ : ∃ s, s = endFrom n p0 := ⟨_, rfl⟩
  obtain ⟨a2, f2⟩ : ∃ s, s = endTo n p0 := ⟨_, rfl⟩
  obtain ⟨a3, f3⟩ : ∃ s, s = endDir n p0 := ⟨_, rfl⟩
  obtain ⟨a4, f4⟩ : ∃ s, s = endHop n p0 := ⟨_, rfl⟩
  rw [← f1, ← f2, ← f3, ← f4] at HE1 HE2
  clear e1 e2 f1 f2 f3 f4 hd hbd h0 hb0
  have hu0 := hw.al (.cells #[.int .i64 p0, .int .i64 p1] 22)
  have hB0 := below_al (Below.refl w.heap.size w) (.cells #[.int .i64 p0, .int .i64 p1] 22)
  have hK0 := Blk.new w 22 #[.int .i64 p0, .int .i64 p1]
  have HK0 := Lib.hid hK0
  clear hK0 hw
  go_enter Tryd.func4, Tryd.ntmps4
  go_wp2_with (first
    | (go_at_call 15; (with_reducible refine (HE1.out _ hu0).mono ?_); rintro e w2 ⟨rfl, b2⟩
       have hu := hu0.on b2
       have hB := below_then hB0 b2
       have hK2 := HK0.out.on b2
       have hc0 := hK2.cell 0
       have hc1 := hK2.cell 1
       have hz := hK2.lt
       simp only [List.getElem?_toArray, List.getElem?_cons_zero, List.getElem?_cons_succ] at hc0 hc1
       clear hK2 HE1 b2 hu0 hB0)
    | (go_at_call 16; (with_reducible refine (HE2.out _).mono ?_); rintro e w' ⟨rfl, rfl⟩; clear HE2))
  refine Reg.wp_slots (fun t => t == 6 || decide (35 ≤ t)) (by kernel_rfl) (by kernel_rfl) (by kernel_rfl) (fun zz => (Reg.tbl [
    (35, .is (.int .i64 a1)),
    (36, .is (.int .i64 a1)),
    (37, .is (.bool true)),
    (38, .is (.bool true)),
    (39, .is (.int .i64 a2)),
    (40, .is (.int .i64 a2)),
    (41, .is (.bool true)),
    (42, .is (.bool true)),
    (43, .is (.bool true)),
    (44, .is (.int .u8 a3)),
    (45, .is (.int .u8 a3)),
    (46, .is (.bool true)),
    (47, .is (.bool true)),
    (48, .is (.bool true)),
    (49, .is (.int .i64 a4)),
    (50, .is (.int .i64 a4)),
    (51, .is (.bool true)),
    (52, .is (.bool true)),
    (53, .is (.bool true)),
    (54, .is (.int .i64 n)),
    (55, .is (.int .u8 d)),
    (56, .is (.pointer (some ⟨w.heap.size, 0, none⟩))),
    (57, .is (.int .i64 p0)),
    (58, .is (.pointer (some ⟨w.heap.size, 1, none⟩))),
    (59, .is (.int .i64 p1)),
    (60, .is (.int .i64 s1)),
    (61, .is (.int .i64 n)),
    (62, .is (.int .u8 d)),
    (63, .is (.pointer (some ⟨w.heap.size, 0, none⟩))),
    (64, .is (.int .i64 p0)),
    (65, .is (.pointer (some ⟨w.heap.size, 1, none⟩))),
    (66, .is (.int .i64 p1)),
    (67, .is (.int .i64 s1)),
    (68, .is (.bool true)),
    (69, .is (.bool true)),
    (70, .is (.bool true)),
    (71, .is (.int .i64 n)),
    (72, .is (.int .u8 d)),
    (73, .is (.pointer (some ⟨w.heap.size, 0, none⟩))),
    (74, .is (.int .i64 p0)),
    (75, .is (.pointer (some ⟨w.heap.size, 1, none⟩))),
    (76, .is (.int .i64 p1)),
    (77, .is (.int .i64 s2)),
    (78, .is (.int .i64 n)),
    (79, .is (.int .u8 d)),
    (80, .is (.pointer (some ⟨w.heap.size, 0, none⟩))),
    (81, .is (.int .i64 p0)),
    (82, .is (.pointer (some ⟨w.heap.size, 1, none⟩))),
    (83, .is (.int .i64 p1)),
    (84, .is (.int .i64 s2)),
    (85, .is (.bool true)),
    (86, .is (.bool true)),
    (87, .is (.bool true)),
    (88, .is (.bool true)),
    (89, .is (.bool true)),
    (6, .is (.bool true))] zz).P) (fun zz => (Reg.tbl _ zz).on) ?_ ?_
  · simp only [Reg.frame, Reg.over, Nat.reduceAdd, Nat.reduceBEq, Nat.reduceLeDiff, decide_true, decide_false, Bool.or_true, Bool.or_false, if_true, Bool.false_eq_true, if_false]
    refine ⟨?_, ?_, ?_, ?_, ?_, ?_, ?_, ?_, ?_, ?_, ?_, ?_, ?_, ?_, ?_, ?_, ?_, ?_, ?_, ?_, ?_, ?_, ?_, ?_, ?_, ?_, ?_, ?_, ?_, ?_, ?_, ?_, ?_, ?_, ?_, ?_, ?_, ?_, ?_, ?_, ?_, ?_, ?_, ?_, ?_, ?_, ?_, ?_, ?_, ?_, ?_, ?_, ?_, ?_, ?_, ?_, trivial⟩
    · intro x u hbu hd
      refine wpOp_step rfl fun K hK => ?_
      go_simp
      exact hK _ _ ⟨_, rfl, Below.refl _ _, fun d hd => by cases hd; exact rfl⟩
    · intro x u hbu hd
      refine wpOp_step rfl fun K hK => ?_
      go_simp
      exact hK _ _ ⟨_, rfl, Below.refl _ _, fun d hd => by cases hd; exact rfl⟩
    · intro x u hbu hd
      have h35 : x 35 = .int .i64 a1 := hd 0 (by decide)
      have h36 : x 36 = .int .i64 a1 := hd 1 (by decide)
      refine wpOp_step rfl fun K hK => ?_
      simp only [h35, h36] at hK ⊢
      go_simp
      exact hK _ _ ⟨_, rfl, Below.refl _ _, fun d hd => by cases hd; exact rfl⟩
    · intro x u hbu hd
      have h37 : x 37 = .bool true := hd 2 (by decide)
      refine wpOp_step rfl fun K hK => ?_
      simp only [h37] at hK ⊢
      go_simp
      exact hK _ _ ⟨_, rfl, Below.refl _ _, fun d hd => by cases hd; exact rfl⟩
    · intro x u hbu hd
      have h38 : x 38 = .bool true := hd 3 (by decide)
      refine wpOp_step rfl fun K hK => ?_
      simp only [h38] at hK ⊢
      go_simp
      exact hK _ _ ⟨_, rfl, Below.refl _ _, fun d hd => by cases hd; exact rfl⟩
    · intro x u hbu hd
      have h38 : x 38 = .bool true := hd 3 (by decide)
      refine wpOp_step rfl fun K hK => ?_
      simp only [h38] at hK ⊢
      go_simp
      exact hK _ _ ⟨_, rfl, Below.refl _ _, fun d hd => by cases hd; exact rfl⟩
    · intro x u hbu hd
      have h39 : x 39 = .int .i64 a2 := hd 4 (by decide)
      have h40 : x 40 = .int .i64 a2 := hd 5 (by decide)
      have h38 : x 38 = .bool true := hd 3 (by decide)
      refine wpOp_step rfl fun K hK => ?_
      simp only [h39, h40, h38] at hK ⊢
      go_simp
      exact hK _ _ ⟨_, rfl, Below.refl _ _, fun d hd => by cases hd; exact rfl⟩
    · intro x u hbu hd
      have h38 : x 38 = .bool true := hd 3 (by decide)
      have h41 : x 41 = .bool true := hd 6 (by decide)
      refine wpOp_step rfl fun K hK => ?_
      simp only [h38, h41] at hK ⊢
      go_simp
      exact hK _ _ ⟨_, rfl, Below.refl _ _, fun d hd => by cases hd; exact rfl⟩
    · intro x u hbu hd
      have h42 : x 42 = .bool true := hd 7 (by decide)
      refine wpOp_step rfl fun K hK => ?_
      simp only [h42] at hK ⊢
      go_simp
      exact hK _ _ ⟨_, rfl, Below.refl _ _, fun d hd => by cases hd; exact rfl⟩
    · intro x u hbu hd
      have h43 : x 43 = .bool true := hd 8 (by decide)
      refine wpOp_step rfl fun K hK => ?_
      simp only [h43] at hK ⊢
      go_simp
      exact hK _ _ ⟨_, rfl, Below.refl _ _, fun d hd => by cases hd; exact rfl⟩
    · intro x u hbu hd
      have h43 : x 43 = .bool true := hd 8 (by decide)
      refine wpOp_step rfl fun K hK => ?_
      simp only [h43] at hK ⊢
      go_simp
      exact hK _ _ ⟨_, rfl, Below.refl _ _, fun d hd => by cases hd; exact rfl⟩
    · intro x u hbu hd
      have h44 : x 44 = .int .u8 a3 := hd 9 (by decide)
      have h45 : x 45 = .int .u8 a3 := hd 10 (by decide)
      have h43 : x 43 = .bool true := hd 8 (by decide)
      refine wpOp_step rfl fun K hK => ?_
      simp only [h44, h45, h43] at hK ⊢
      go_simp
      exact hK _ _ ⟨_, rfl, Below.refl _ _, fun d hd => by cases hd; exact rfl⟩
    · intro x u hbu hd
      have h43 : x 43 = .bool true := hd 8 (by decide)
      have h46 : x 46 = .bool true := hd 11 (by decide)
      refine wpOp_step rfl fun K hK => ?_
      simp only [h43, h46] at hK ⊢
      go_simp
      exact hK _ _ ⟨_, rfl, Below.refl _ _, fun d hd => by cases hd; exact rfl⟩
    · intro x u hbu hd
      have h47 : x 47 = .bool true := hd 12 (by decide)
      refine wpOp_step rfl fun K hK => ?_
      simp only [h47] at hK ⊢
      go_simp
      exact hK _ _ ⟨_, rfl, Below.refl _ _, fun d hd => by cases hd; exact rfl⟩
    · intro x u hbu hd
      have h48 : x 48 = .bool true := hd 13 (by decide)
      refine wpOp_step rfl fun K hK => ?_
      simp only [h48] at hK ⊢
      go_simp
      exact hK _ _ ⟨_, rfl, Below.refl _ _, fun d hd => by cases hd; exact rfl⟩
    · intro x u hbu hd
      have h48 : x 48 = .bool true := hd 13 (by decide)
      refine wpOp_step rfl fun K hK => ?_
      simp only [h48] at hK ⊢
      go_simp
      exact hK _ _ ⟨_, rfl, Below.refl _ _, fun d hd => by cases hd; exact rfl⟩
    · intro x u hbu hd
      have h49 : x 49 = .int .i64 a4 := hd 14 (by decide)
      have h50 : x 50 = .int .i64 a4 := hd 15 (by decide)
      have h48 : x 48 = .bool true := hd 13 (by decide)
      refine wpOp_step rfl fun K hK => ?_
      simp only [h49, h50, h48] at hK ⊢
      go_simp
      exact hK _ _ ⟨_, rfl, Below.refl _ _, fun d hd => by cases hd; exact rfl⟩
    · intro x u hbu hd
      have h48 : x 48 = .bool true := hd 13 (by decide)
      have h51 : x 51 = .bool true := hd 16 (by decide)
      refine wpOp_step rfl fun K hK => ?_
      simp only [h48, h51] at hK ⊢
      go_simp
      exact hK _ _ ⟨_, rfl, Below.refl _ _, fun d hd => by cases hd; exact rfl⟩
    · intro x u hbu hd
      have h52 : x 52 = .bool true := hd 17 (by decide)
      refine wpOp_step rfl fun K hK => ?_
      simp only [h52] at hK ⊢
      go_simp
      exact hK _ _ ⟨_, rfl, Below.refl _ _, fun d hd => by cases hd; exact rfl⟩
    · intro x u hbu hd
      have h53 : x 53 = .bool true := hd 18 (by decide)
      refine wpOp_step rfl fun K hK => ?_
      simp only [h53] at hK ⊢
      go_simp
      exact hK _ _ ⟨_, rfl, Below.refl _ _, fun d hd => by cases hd; exact rfl⟩
    · intro x u hbu hd
      have h53 : x 53 = .bool true := hd 18 (by decide)
      refine wpOp_step rfl fun K hK => ?_
      simp only [h53] at hK ⊢
      go_simp
      exact hK _ _ ⟨_, rfl, Below.refl _ _, fun d hd => by cases hd; exact rfl⟩
    · intro x u hbu hd
      have h53 : x 53 = .bool true := hd 18 (by decide)
      refine wpOp_step rfl fun K hK => ?_
      simp only [h53] at hK ⊢
      go_simp
      exact hK _ _ ⟨_, rfl, Below.refl _ _, fun d hd => by cases hd; exact rfl⟩
    · intro x u hbu hd
      have h56 : x 56 = .pointer (some ⟨w.heap.size, 0, none⟩) := hd 21 (by decide)
      have h53 : x 53 = .bool true := hd 18 (by decide)
      have hc := (hbu.cell (p := ⟨w.heap.size, 0, none⟩) hz).trans hc0
      refine wpOp_step rfl fun K hK => ?_
      simp only [h56, h53] at hK ⊢
      go_simp
      exact hK _ _ ⟨_, rfl, Below.refl _ _, fun d hd => by cases hd; exact rfl⟩
    · intro x u hbu hd
      have h53 : x 53 = .bool true := hd 18 (by decide)
      refine wpOp_step rfl fun K hK => ?_
      simp only [h53] at hK ⊢
      go_simp
      exact hK _ _ ⟨_, rfl, Below.refl _ _, fun d hd => by cases hd; exact rfl⟩
    · intro x u hbu hd
      have h58 : x 58 = .pointer (some ⟨w.heap.size, 1, none⟩) := hd 23 (by decide)
      have h53 : x 53 = .bool true := hd 18 (by decide)
      have hc := (hbu.cell (p := ⟨w.heap.size, 1, none⟩) hz).trans hc1
      refine wpOp_step rfl fun K hK => ?_
      simp only [h58, h53] at hK ⊢
      go_simp
      exact hK _ _ ⟨_, rfl, Below.refl _ _, fun d hd => by cases hd; exact rfl⟩
    · intro x u hbu hd
      have h54 : x 54 = .int .i64 n := hd 19 (by decide)
      have h55 : x 55 = .int .u8 d := hd 20 (by decide)
      have h57 : x 57 = .int .i64 p0 := hd 22 (by decide)
      have h59 : x 59 = .int .i64 p1 := hd 24 (by decide)
      have h53 : x 53 = .bool true := hd 18 (by decide)
      refine wpOp_step rfl fun K hK => ?_
      simp only [h54, h55, h57, h59, h53] at hK ⊢
      go_simp
      with_reducible refine (HS1.out u (hu.on hbu)).mono ?_
      rintro e u' ⟨rfl, hb'⟩
      exact hK _ _ ⟨_, rfl, hb', fun d hd => by cases hd; exact rfl⟩
    · intro x u hbu hd
      have h53 : x 53 = .bool true := hd 18 (by decide)
      refine wpOp_step rfl fun K hK => ?_
      simp only [h53] at hK ⊢
      go_simp
      exact hK _ _ ⟨_, rfl, Below.refl _ _, fun d hd => by cases hd; exact rfl⟩
    · intro x u hbu hd
      have h53 : x 53 = .bool true := hd 18 (by decide)
      refine wpOp_step rfl fun K hK => ?_
      simp only [h53] at hK ⊢
      go_simp
      exact hK _ _ ⟨_, rfl, Below.refl _ _, fun d hd => by cases hd; exact rfl⟩
    · intro x u hbu hd
      have h53 : x 53 = .bool true := hd 18 (by decide)
      refine wpOp_step rfl fun K hK => ?_
      simp only [h53] at hK ⊢
      go_simp
      exact hK _ _ ⟨_, rfl, Below.refl _ _, fun d hd => by cases hd; exact rfl⟩
    · intro x u hbu hd
      have h63 : x 63 = .pointer (some ⟨w.heap.size, 0, none⟩) := hd 28 (by decide)
      have h53 : x 53 = .bool true := hd 18 (by decide)
      have hc := (hbu.cell (p := ⟨w.heap.size, 0, none⟩) hz).trans hc0
      refine wpOp_step rfl fun K hK => ?_
      simp only [h63, h53] at hK ⊢
      go_simp
      exact hK _ _ ⟨_, rfl, Below.refl _ _, fun d hd => by cases hd; exact rfl⟩
    · intro x u hbu hd
      have h53 : x 53 = .bool true := hd 18 (by decide)
      refine wpOp_step rfl fun K hK => ?_
      simp only [h53] at hK ⊢
      go_simp
      exact hK _ _ ⟨_, rfl, Below.refl _ _, fun d hd => by cases hd; exact rfl⟩
    · intro x u hbu hd
      have h65 : x 65 = .pointer (some ⟨w.heap.size, 1, none⟩) := hd 30 (by decide)
      have h53 : x 53 = .bool true := hd 18 (by decide)
      have hc := (hbu.cell (p := ⟨w.heap.size, 1, none⟩) hz).trans hc1
      refine wpOp_step rfl fun K hK => ?_
      simp only [h65, h53] at hK ⊢
      go_simp
      exact hK _ _ ⟨_, rfl, Below.refl _ _, fun d hd => by cases hd; exact rfl⟩
    · intro x u hbu hd
      have h61 : x 61 = .int .i64 n := hd 26 (by decide)
      have h62 : x 62 = .int .u8 d := hd 27 (by decide)
      have h64 : x 64 = .int .i64 p0 := hd 29 (by decide)
      have h66 : x 66 = .int .i64 p1 := hd 31 (by decide)
      have h53 : x 53 = .bool true := hd 18 (by decide)
      refine wpOp_step rfl fun K hK => ?_
      simp only [h61, h62, h64, h66, h53] at hK ⊢
      go_simp
      with_reducible refine (HS2.out u).mono ?_
      rintro e u' ⟨rfl, rfl⟩
      exact hK _ _ ⟨_, rfl, Below.refl _ _, fun d hd => by cases hd; exact rfl⟩
    · intro x u hbu hd
      have h60 : x 60 = .int .i64 s1 := hd 25 (by decide)
      have h67 : x 67 = .int .i64 s1 := hd 32 (by decide)
      have h53 : x 53 = .bool true := hd 18 (by decide)
      refine wpOp_step rfl fun K hK => ?_
      simp only [h60, h67, h53] at hK ⊢
      go_simp
      exact hK _ _ ⟨_, rfl, Below.refl _ _, fun d hd => by cases hd; exact rfl⟩
    · intro x u hbu hd
      have h53 : x 53 = .bool true := hd 18 (by decide)
      have h68 : x 68 = .bool true := hd 33 (by decide)
      refine wpOp_step rfl fun K hK => ?_
      simp only [h53, h68] at hK ⊢
      go_simp
      exact hK _ _ ⟨_, rfl, Below.refl _ _, fun d hd => by cases hd; exact rfl⟩
    · intro x u hbu hd
      have h69 : x 69 = .bool true := hd 34 (by decide)
      refine wpOp_step rfl fun K hK => ?_
      simp only [h69] at hK ⊢
      go_simp
      exact hK _ _ ⟨_, rfl, Below.refl _ _, fun d hd => by cases hd; exact rfl⟩
    · intro x u hbu hd
      have h70 : x 70 = .bool true := hd 35 (by decide)
      refine wpOp_step rfl fun K hK => ?_
      simp only [h70] at hK ⊢
      go_simp
      exact hK _ _ ⟨_, rfl, Below.refl _ _, fun d hd => by cases hd; exact rfl⟩
    · intro x u hbu hd
      have h70 : x 70 = .bool true := hd 35 (by decide)
      refine wpOp_step rfl fun K hK => ?_
      simp only [h70] at hK ⊢
      go_simp
      exact hK _ _ ⟨_, rfl, Below.refl _ _, fun d hd => by cases hd; exact rfl⟩
    · intro x u hbu hd
      have h70 : x 70 = .bool true := hd 35 (by decide)
      refine wpOp_step rfl fun K hK => ?_
      simp only [h70] at hK ⊢
      go_simp
      exact hK _ _ ⟨_, rfl, Below.refl _ _, fun d hd => by cases hd; exact rfl⟩
    · intro x u hbu hd
      have h73 : x 73 = .pointer (some ⟨w.heap.size, 0, none⟩) := hd 38 (by decide)
      have h70 : x 70 = .bool true := hd 35 (by decide)
      have hc := (hbu.cell (p := ⟨w.heap.size, 0, none⟩) hz).trans hc0
      refine wpOp_step rfl fun K hK => ?_
      simp only [h73, h70] at hK ⊢
      go_simp
      exact hK _ _ ⟨_, rfl, Below.refl _ _, fun d hd => by cases hd; exact rfl⟩
    · intro x u hbu hd
      have h70 : x 70 = .bool true := hd 35 (by decide)
      refine wpOp_step rfl fun K hK => ?_
      simp only [h70] at hK ⊢
      go_simp
      exact hK _ _ ⟨_, rfl, Below.refl _ _, fun d hd => by cases hd; exact rfl⟩
    · intro x u hbu hd
      have h75 : x 75 = .pointer (some ⟨w.heap.size, 1, none⟩) := hd 40 (by decide)
      have h70 : x 70 = .bool true := hd 35 (by decide)
      have hc := (hbu.cell (p := ⟨w.heap.size, 1, none⟩) hz).trans hc1
      refine wpOp_step rfl fun K hK => ?_
      simp only [h75, h70] at hK ⊢
      go_simp
      exact hK _ _ ⟨_, rfl, Below.refl _ _, fun d hd => by cases hd; exact rfl⟩
    · intro x u hbu hd
      have h71 : x 71 = .int .i64 n := hd 36 (by decide)
      have h72 : x 72 = .int .u8 d := hd 37 (by decide)
      have h74 : x 74 = .int .i64 p0 := hd 39 (by decide)
      have h76 : x 76 = .int .i64 p1 := hd 41 (by decide)
      have h70 : x 70 = .bool true := hd 35 (by decide)
      refine wpOp_step rfl fun K hK => ?_
      simp only [h71, h72, h74, h76, h70] at hK ⊢
      go_simp
      with_reducible refine (HL1.out u).mono ?_
      rintro e u' ⟨rfl, hb'⟩
      exact hK _ _ ⟨_, rfl, hb', fun d hd => by cases hd; exact rfl⟩
    · intro x u hbu hd
      have h70 : x 70 = .bool true := hd 35 (by decide)
      refine wpOp_step rfl fun K hK => ?_
      simp only [h70] at hK ⊢
      go_simp
      exact hK _ _ ⟨_, rfl, Below.refl _ _, fun d hd => by cases hd; exact rfl⟩
    · intro x u hbu hd
      have h70 : x 70 = .bool true := hd 35 (by decide)
      refine wpOp_step rfl fun K hK => ?_
      simp only [h70] at hK ⊢
      go_simp
      exact hK _ _ ⟨_, rfl, Below.refl _ _, fun d hd => by cases hd; exact rfl⟩
    · intro x u hbu hd
      have h70 : x 70 = .bool true := hd 35 (by decide)
      refine wpOp_step rfl fun K hK => ?_
      simp only [h70] at hK ⊢
      go_simp
      exact hK _ _ ⟨_, rfl, Below.refl _ _, fun d hd => by cases hd; exact rfl⟩
    · intro x u hbu hd
      have h80 : x 80 = .pointer (some ⟨w.heap.size, 0, none⟩) := hd 45 (by decide)
      have h70 : x 70 = .bool true := hd 35 (by decide)
      have hc := (hbu.cell (p := ⟨w.heap.size, 0, none⟩) hz).trans hc0
      refine wpOp_step rfl fun K hK => ?_
      simp only [h80, h70] at hK ⊢
      go_simp
      exact hK _ _ ⟨_, rfl, Below.refl _ _, fun d hd => by cases hd; exact rfl⟩
    · intro x u hbu hd
      have h70 : x 70 = .bool true := hd 35 (by decide)
      refine wpOp_step rfl fun K hK => ?_
      simp only [h70] at hK ⊢
      go_simp
      exact hK _ _ ⟨_, rfl, Below.refl _ _, fun d hd => by cases hd; exact rfl⟩
    · intro x u hbu hd
      have h82 : x 82 = .pointer (some ⟨w.heap.size, 1, none⟩) := hd 47 (by decide)
      have h70 : x 70 = .bool true := hd 35 (by decide)
      have hc := (hbu.cell (p := ⟨w.heap.size, 1, none⟩) hz).trans hc1
      refine wpOp_step rfl fun K hK => ?_
      simp only [h82, h70] at hK ⊢
      go_simp
      exact hK _ _ ⟨_, rfl, Below.refl _ _, fun d hd => by cases hd; exact rfl⟩
    · intro x u hbu hd
      have h78 : x 78 = .int .i64 n := hd 43 (by decide)
      have h79 : x 79 = .int .u8 d := hd 44 (by decide)
      have h81 : x 81 = .int .i64 p0 := hd 46 (by decide)
      have h83 : x 83 = .int .i64 p1 := hd 48 (by decide)
      have h70 : x 70 = .bool true := hd 35 (by decide)
      refine wpOp_step rfl fun K hK => ?_
      simp only [h78, h79, h81, h83, h70] at hK ⊢
      go_simp
      with_reducible refine (HL2.out u).mono ?_
      rintro e u' ⟨rfl, rfl⟩
      exact hK _ _ ⟨_, rfl, Below.refl _ _, fun d hd => by cases hd; exact rfl⟩
    · intro x u hbu hd
      have h77 : x 77 = .int .i64 s2 := hd 42 (by decide)
      have h84 : x 84 = .int .i64 s2 := hd 49 (by decide)
      have h70 : x 70 = .bool true := hd 35 (by decide)
      refine wpOp_step rfl fun K hK => ?_
      simp only [h77, h84, h70] at hK ⊢
      go_simp
      exact hK _ _ ⟨_, rfl, Below.refl _ _, fun d hd => by cases hd; exact rfl⟩
    · intro x u hbu hd
      have h70 : x 70 = .bool true := hd 35 (by decide)
      have h85 : x 85 = .bool true := hd 50 (by decide)
      refine wpOp_step rfl fun K hK => ?_
      simp only [h70, h85] at hK ⊢
      go_simp
      exact hK _ _ ⟨_, rfl, Below.refl _ _, fun d hd => by cases hd; exact rfl⟩
    · intro x u hbu hd
      have h86 : x 86 = .bool true := hd 51 (by decide)
      refine wpOp_step rfl fun K hK => ?_
      simp only [h86] at hK ⊢
      go_simp
      exact hK _ _ ⟨_, rfl, Below.refl _ _, fun d hd => by cases hd; exact rfl⟩
    · intro x u hbu hd
      have h87 : x 87 = .bool true := hd 52 (by decide)
      refine wpOp_step rfl fun K hK => ?_
      simp only [h87] at hK ⊢
      go_simp
      with_reducible refine (lives_any u (hu.on hbu)).mono ?_
      rintro e u' ⟨rfl, hb'⟩
      exact hK _ _ ⟨_, rfl, hb', fun d hd => by cases hd; exact rfl⟩
    · intro x u hbu hd
      have h87 : x 87 = .bool true := hd 52 (by decide)
      have h88 : x 88 = .bool true := hd 53 (by decide)
      refine wpOp_step rfl fun K hK => ?_
      simp only [h87, h88] at hK ⊢
      go_simp
      exact hK _ _ ⟨_, rfl, Below.refl _ _, fun d hd => by cases hd; exact rfl⟩
    · intro x u hbu hd
      have h89 : x 89 = .bool true := hd 54 (by decide)
      refine wpOp_step rfl fun K hK => ?_
      simp only [h89] at hK ⊢
      go_simp
      exact hK _ _ ⟨_, rfl, Below.refl _ _, fun d hd => by cases hd; exact rfl⟩
  · intro x u hbu hall
    have h6 : x 6 = .bool true := hall 55 (by decide)
    simp only [Reg.frame, Reg.over, Nat.reduceAdd, Nat.reduceBEq, Nat.reduceLeDiff, decide_true, decide_false, Bool.or_true, Bool.or_false, if_true, Bool.false_eq_true, if_false, h6]
    go_wp2_with fail
    go_ret
    exact ⟨rfl, below_then hB hbu⟩
end Go.Proofs.YthjplgiinkijcaaDoor
