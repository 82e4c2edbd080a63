/-
  The contract of the laws' lives: the chapter's examples. No condition.
-/
import Derived.Test.YtpjcbfapkjipjaaCaH
namespace Go.Proofs.Ytpjcbfapkjipjaa
open Go.RowKit Crc
set_option linter.unusedVariables false

def liveC : Fr := ⟨1, 1, 0, 0, 9⟩
theorem liveC_fit : liveC.Fit := ⟨by decide, by decide, by decide, by decide, by decide, by decide, by decide, by decide⟩
set_option maxRecDepth 100000 in
set_option maxHeartbeats 4000000 in
theorem lives_ca (w : World) : Calls Try.prog 8 #[] w fun e w' => e = .returned (.bool true) ∧ Below w.heap.size w w' := by
  have HO := Lib.hid (fun u => law5_of_any liveC u)
  have HG := Lib.hid (fun u => good_is liveC u liveC_fit (by decide))
  have HL := Lib.hid (goodL_length liveC)
  have k1 := goodL_high liveC_fit (by decide)
  have k2 := goodL_frame liveC_fit (by decide)
  have k3 := goodL_out liveC_fit (by decide)
  have k4 := none_out (F := goodL liveC) 1 (goodL_length _) (goodL_whole _)
  have k5 := none_hi (knF (goodL liveC)) 1
  have k6 := none_hiF (knF (goodL liveC)) 1
  obtain ⟨S, hS⟩ : ∃ S, S = goodL liveC := ⟨_, rfl⟩
  rw [← hS] at HG HL k1 k2 k3 k4 k5 k6
  have HR1 := Lib.hid (fun u g (hl : Lies .u8 u u.heap.size (some ⟨g, 0, none⟩) 114 S) => run_is 1 (some ⟨g, 0, none⟩) (some ⟨g, 0, none⟩) 114 114 114 114 114 S S u hl hl (by decide) (by decide) rfl (Nat.le_refl _) _ _ rfl rfl _ k1 _ k2 _ k3)
  have HR2 := Lib.hid (fun u g (hl : Lies .u8 u u.heap.size (some ⟨g, 0, none⟩) 114 S) => run_is 1 none (some ⟨g, 0, none⟩) 0 114 0 114 114 [] S u Lies.nil_ hl (by decide) (by decide) rfl (Nat.le_refl _) _ _ rfl rfl _ k5 _ k6 _ k4)
  simp only [liveC] at HG HO HR1
  simp only [Fr.zero] at HR2
  clear hS k1 k2 k3 k4 k5 k6
  have hPY0 := Blk.new w 40 #[.int .u8 1, .int .u8 0, .int .u32 0, .int .u32 9]
  have hbe := below_al (Below.refl w.heap.size w) (.cells #[.int .u8 1, .int .u8 0, .int .u32 0, .int .u32 9] 40)
  go_enter Try.func8, Try.ntmps8
  go_wp2_with (first
    | (go_at_call 24; (with_reducible refine (HG.out _).mono ?_); rintro e w1 ⟨gs, rfl, hgs, hBS, b1⟩)
    | (go_at_call 20; (with_reducible refine (HR1.out _ gs (hBS.lies HL.out)).mono ?_); rintro e w2 ⟨A1, c1, rfl, hownA, b2⟩; have hBS2 := (hBS.on b2).alloc (.cells #[.int .i64 1, .int .u8 1, .int .u8 0, .int .u32 0, .int .u32 9] 42); have hFR0 := Blk.new w2 42 #[.int .i64 1, .int .u8 1, .int .u8 0, .int .u32 0, .int .u32 9])
    | (go_at_call 20; (with_reducible refine (HR2.out _ gs (hBS2.lies HL.out)).mono ?_); rintro e w3 ⟨B1, c2, rfl, hownB, b3⟩))

  have hb3 := below_al (below_then (below_al (below_then (below_then hbe b1) b2) _) b3) (.cells #[.int .i64 0, .int .u8 0, .int .u8 0, .int .u32 0, .int .u32 0] 42)
  have hLS := ((hBS2.on b3).alloc (.cells #[.int .i64 0, .int .u8 0, .int .u8 0, .int .u32 0, .int .u32 0] 42)).lies HL.out
  have hFR := (hFR0.on b3).alloc (.cells #[.int .i64 0, .int .u8 0, .int .u8 0, .int .u32 0, .int .u32 0] 42)
  have hPY := ((((hPY0.on b1).on b2).alloc (.cells #[.int .i64 1, .int .u8 1, .int .u8 0, .int .u32 0, .int .u32 9] 42)).on b3).alloc (.cells #[.int .i64 0, .int .u8 0, .int .u8 0, .int .u32 0, .int .u32 0] 42)
  have hLA := (((lies_of_owns hownA).al (.cells #[.int .i64 1, .int .u8 1, .int .u8 0, .int .u32 0, .int .u32 9] 42)).on b3).al (.cells #[.int .i64 0, .int .u8 0, .int .u8 0, .int .u32 0, .int .u32 0] 42)
  have hLB := (lies_of_owns hownB).al (.cells #[.int .i64 0, .int .u8 0, .int .u8 0, .int .u32 0, .int .u32 0] 42)
  have hcp := owns_cap hownB
  obtain ⟨bb, off, rfl, hbb, hcc⟩ := hLB.at_ (by omega)
  obtain ⟨W, hW⟩ : ∃ W, W = w3.alloc (.cells #[.int .i64 0, .int .u8 0, .int .u8 0, .int .u32 0, .int .u32 0] 42) := ⟨_, rfl⟩
  rw [← hW] at hb3 hLS hFR hPY hLA hLB hbb hcc ⊢
  clear hW hownA hownB b1 b2 b3 hBS hBS2 hFR0 hPY0 HG HR1 HR2 hbe hgs
  refine Reg.wp_slots (fun t => decide (25 ≤ t)) (by kernel_rfl) (by kernel_rfl) (by kernel_rfl) (fun zz => (Reg.tbl [
    (25, .is (.slice (some ⟨gs, 0, none⟩) 114 114)),
    (26, .is (.int .i64 114)),
    (27, .is (.bool false)),
    (28, .is (.bool false)),
    (29, .is (.slice A1 114 c1)),
    (30, .is (.slice (some ⟨gs, 0, none⟩) 114 114)),
    (31, .is (.bool true)),
    (32, .is (.bool false)),
    (33, .is (.bool false)),
    (34, .is (.bool false)),
    (35, .is (.bool true)),
    (36, .is (.bool false)),
    (37, .is (.bool false)),
    (38, .is (.bool false)),
    (39, .is (.agg #[.int .i64 1, .int .u8 1, .int .u8 0, .int .u32 0, .int .u32 9])),
    (40, .is (.agg #[.int .u8 1, .int .u8 0, .int .u32 0, .int .u32 9])),
    (41, .is (.agg #[.int .i64 1, .int .u8 1, .int .u8 0, .int .u32 0, .int .u32 9])),
    (42, .is (.bool false)),
    (43, .is (.bool false)),
    (44, .is (.bool false)),
    (45, .is (.slice (some ⟨bb, off, none⟩) 114 c2)),
    (46, .is (.int .i64 114)),
    (47, .is (.bool false)),
    (48, .is (.bool false)),
    (49, .is (.bool false)),
    (50, .is (.bool false)),
    (51, .is (.bool false))] zz).P) (fun zz => (Reg.tbl _ zz).on) ?_ ?_
  · simp only [Reg.frame, Reg.over, Nat.reduceAdd, Nat.reduceLeDiff, decide_true, decide_false, if_true, Bool.false_eq_true, if_false]
    refine ⟨?_, ?_, ?_, ?_, ?_, ?_, ?_, ?_, ?_, ?_, ?_, ?_, ?_, ?_, ?_, ?_, ?_, ?_, ?_, ?_, ?_, ?_, ?_, ?_, ?_, ?_, ?_, trivial⟩
    · intro x u hbu hd
      refine wpOp_step rfl fun K hK => ?_
      go_simp
      exact hK _ _ ⟨_, rfl, Below.refl _ _, fun d hd => by cases hd; exact rfl⟩
    · intro x u hbu hd
      have h25 : x 25 = .slice (some ⟨gs, 0, none⟩) 114 114 := hd 0 (by decide)
      refine wpOp_step rfl fun K hK => ?_
      simp only [h25] at hK ⊢
      go_simp
      exact hK _ _ ⟨_, rfl, Below.refl _ _, fun d hd => by cases hd; exact rfl⟩
    · intro x u hbu hd
      have h26 : x 26 = .int .i64 114 := hd 1 (by decide)
      refine wpOp_step rfl fun K hK => ?_
      simp only [h26] at hK ⊢
      go_simp
      exact hK _ _ ⟨_, rfl, Below.refl _ _, fun d hd => by cases hd; exact rfl⟩
    · intro x u hbu hd
      have h27 : x 27 = .bool false := hd 2 (by decide)
      refine wpOp_step rfl fun K hK => ?_
      simp only [h27] at hK ⊢
      go_simp
      exact hK _ _ ⟨_, rfl, Below.refl _ _, fun d hd => by cases hd; exact rfl⟩
    · intro x u hbu hd
      have h28 : x 28 = .bool false := hd 3 (by decide)
      refine wpOp_step rfl fun K hK => ?_
      simp only [h28] at hK ⊢
      go_simp
      exact hK _ _ ⟨_, rfl, Below.refl _ _, fun d hd => by cases hd; exact rfl⟩
    · intro x u hbu hd
      have h28 : x 28 = .bool false := hd 3 (by decide)
      refine wpOp_step rfl fun K hK => ?_
      simp only [h28] at hK ⊢
      go_simp
      exact hK _ _ ⟨_, rfl, Below.refl _ _, fun d hd => by cases hd; exact rfl⟩
    · intro x u hbu hd
      have h29 : x 29 = .slice A1 114 c1 := hd 4 (by decide)
      have h30 : x 30 = .slice (some ⟨gs, 0, none⟩) 114 114 := hd 5 (by decide)
      have h28 : x 28 = .bool false := hd 3 (by decide)
      refine wpOp_step rfl fun K hK => ?_
      simp only [h29, h30, h28] at hK ⊢
      go_simp
      refine (same_true _ _ _ _ _ _ S S u (hLA.on hbu) (hLS.on hbu) (by omega) (by omega) rfl).mono ?_
      rintro e w9 ⟨rfl, b9⟩
      exact hK _ _ ⟨_, rfl, b9, fun d hd => by cases hd; exact rfl⟩
    · intro x u hbu hd
      have h31 : x 31 = .bool true := hd 6 (by decide)
      have h28 : x 28 = .bool false := hd 3 (by decide)
      refine wpOp_step rfl fun K hK => ?_
      simp only [h31, h28] at hK ⊢
      go_simp
      exact hK _ _ ⟨_, rfl, Below.refl _ _, fun d hd => by cases hd; exact rfl⟩
    · intro x u hbu hd
      have h28 : x 28 = .bool false := hd 3 (by decide)
      have h32 : x 32 = .bool false := hd 7 (by decide)
      refine wpOp_step rfl fun K hK => ?_
      simp only [h28, h32] at hK ⊢
      go_simp
      exact hK _ _ ⟨_, rfl, Below.refl _ _, fun d hd => by cases hd; exact rfl⟩
    · intro x u hbu hd
      have h33 : x 33 = .bool false := hd 8 (by decide)
      refine wpOp_step rfl fun K hK => ?_
      simp only [h33] at hK ⊢
      go_simp
      exact hK _ _ ⟨_, rfl, Below.refl _ _, fun d hd => by cases hd; exact rfl⟩
    · intro x u hbu hd
      have h34 : x 34 = .bool false := hd 9 (by decide)
      refine wpOp_step rfl fun K hK => ?_
      simp only [h34] at hK ⊢
      go_simp
      exact hK _ _ ⟨_, rfl, Below.refl _ _, fun d hd => by cases hd; exact rfl⟩
    · intro x u hbu hd
      have h35 : x 35 = .bool true := hd 10 (by decide)
      have h34 : x 34 = .bool false := hd 9 (by decide)
      refine wpOp_step rfl fun K hK => ?_
      simp only [h35, h34] at hK ⊢
      go_simp
      exact hK _ _ ⟨_, rfl, Below.refl _ _, fun d hd => by cases hd; exact rfl⟩
    · intro x u hbu hd
      have h34 : x 34 = .bool false := hd 9 (by decide)
      have h36 : x 36 = .bool false := hd 11 (by decide)
      refine wpOp_step rfl fun K hK => ?_
      simp only [h34, h36] at hK ⊢
      go_simp
      exact hK _ _ ⟨_, rfl, Below.refl _ _, fun d hd => by cases hd; exact rfl⟩
    · intro x u hbu hd
      have h37 : x 37 = .bool false := hd 12 (by decide)
      refine wpOp_step rfl fun K hK => ?_
      simp only [h37] at hK ⊢
      go_simp
      exact hK _ _ ⟨_, rfl, Below.refl _ _, fun d hd => by cases hd; exact rfl⟩
    · intro x u hbu hd
      have h38 : x 38 = .bool false := hd 13 (by decide)
      have hq := hFR.on hbu
      have hlq := hq.lt
      have q0 := hq.cell 0
      have q1 := hq.cell 1
      have q2 := hq.cell 2
      have q3 := hq.cell 3
      have q4 := hq.cell 4
      simp only [List.getElem?_toArray, List.getElem?_cons_zero, List.getElem?_cons_succ] at q0 q1 q2 q3 q4
      refine wpOp_step rfl fun K hK => ?_
      simp only [h38] at hK ⊢
      go_simp
      exact hK _ _ ⟨_, rfl, Below.refl _ _, fun d hd => by cases hd; exact rfl⟩
    · intro x u hbu hd
      have h38 : x 38 = .bool false := hd 13 (by decide)
      have hq := hPY.on hbu
      have hlq := hq.lt
      have q0 := hq.cell 0
      have q1 := hq.cell 1
      have q2 := hq.cell 2
      have q3 := hq.cell 3
      simp only [List.getElem?_toArray, List.getElem?_cons_zero, List.getElem?_cons_succ] at q0 q1 q2 q3
      refine wpOp_step rfl fun K hK => ?_
      simp only [h38] at hK ⊢
      go_simp
      exact hK _ _ ⟨_, rfl, Below.refl _ _, fun d hd => by cases hd; exact rfl⟩
    · intro x u hbu hd
      have h40 : x 40 = .agg #[.int .u8 1, .int .u8 0, .int .u32 0, .int .u32 9] := hd 15 (by decide)
      have h38 : x 38 = .bool false := hd 13 (by decide)
      refine wpOp_step rfl fun K hK => ?_
      simp only [h40, h38] at hK ⊢
      go_simp
      refine (HO.out _).mono ?_
      rintro e w9 ⟨rfl, b9⟩
      exact hK _ _ ⟨_, rfl, b9, fun d hd => by cases hd; exact rfl⟩
    · intro x u hbu hd
      have h39 : x 39 = .agg #[.int .i64 1, .int .u8 1, .int .u8 0, .int .u32 0, .int .u32 9] := hd 14 (by decide)
      have h41 : x 41 = .agg #[.int .i64 1, .int .u8 1, .int .u8 0, .int .u32 0, .int .u32 9] := hd 16 (by decide)
      have h38 : x 38 = .bool false := hd 13 (by decide)
      have hne := fr_neq 1 1 0 0 9 1 1 0 0 9 u
      simp only [beq_self_eq_true, Bool.and_self, Bool.not_true] at hne
      refine wpOp_step rfl fun K hK => ?_
      simp only [h39, h41, h38] at hK ⊢
      go_simp
      exact hK _ _ ⟨_, rfl, Below.refl _ _, fun d hd => by cases hd; exact rfl⟩
    · intro x u hbu hd
      have h38 : x 38 = .bool false := hd 13 (by decide)
      have h42 : x 42 = .bool false := hd 17 (by decide)
      refine wpOp_step rfl fun K hK => ?_
      simp only [h38, h42] at hK ⊢
      go_simp
      exact hK _ _ ⟨_, rfl, Below.refl _ _, fun d hd => by cases hd; exact rfl⟩
    · intro x u hbu hd
      have h43 : x 43 = .bool false := hd 18 (by decide)
      refine wpOp_step rfl fun K hK => ?_
      simp only [h43] at hK ⊢
      go_simp
      exact hK _ _ ⟨_, rfl, Below.refl _ _, fun d hd => by cases hd; exact rfl⟩
    · intro x u hbu hd
      have h44 : x 44 = .bool false := hd 19 (by decide)
      refine wpOp_step rfl fun K hK => ?_
      simp only [h44] at hK ⊢
      go_simp
      exact hK _ _ ⟨_, rfl, Below.refl _ _, fun d hd => by cases hd; exact rfl⟩
    · intro x u hbu hd
      have h45 : x 45 = .slice (some ⟨bb, off, none⟩) 114 c2 := hd 20 (by decide)
      have h44 : x 44 = .bool false := hd 19 (by decide)
      refine wpOp_step rfl fun K hK => ?_
      simp only [h45, h44] at hK ⊢
      go_simp
      exact hK _ _ ⟨_, rfl, Below.refl _ _, fun d hd => by cases hd; exact rfl⟩
    · intro x u hbu hd
      have h46 : x 46 = .int .i64 114 := hd 21 (by decide)
      have h44 : x 44 = .bool false := hd 19 (by decide)
      refine wpOp_step rfl fun K hK => ?_
      simp only [h46, h44] at hK ⊢
      go_simp
      exact hK _ _ ⟨_, rfl, Below.refl _ _, fun d hd => by cases hd; exact rfl⟩
    · intro x u hbu hd
      have h44 : x 44 = .bool false := hd 19 (by decide)
      have h47 : x 47 = .bool false := hd 22 (by decide)
      refine wpOp_step rfl fun K hK => ?_
      simp only [h44, h47] at hK ⊢
      go_simp
      exact hK _ _ ⟨_, rfl, Below.refl _ _, fun d hd => by cases hd; exact rfl⟩
    · intro x u hbu hd
      have h48 : x 48 = .bool false := hd 23 (by decide)
      refine wpOp_step rfl fun K hK => ?_
      simp only [h48] at hK ⊢
      go_simp
      exact hK _ _ ⟨_, rfl, Below.refl _ _, fun d hd => by cases hd; exact rfl⟩
    · intro x u hbu hd
      have h49 : x 49 = .bool false := hd 24 (by decide)
      refine wpOp_step rfl fun K hK => ?_
      simp only [h49] at hK ⊢
      go_simp
      exact hK _ _ ⟨_, rfl, Below.refl _ _, fun d hd => by cases hd; exact rfl⟩
    · intro x u hbu hd
      have h49 : x 49 = .bool false := hd 24 (by decide)
      have h50 : x 50 = .bool false := hd 25 (by decide)
      refine wpOp_step rfl fun K hK => ?_
      simp only [h49, h50] at hK ⊢
      go_simp
      exact hK _ _ ⟨_, rfl, Below.refl _ _, fun d hd => by cases hd; exact rfl⟩
  · intro x u hbu hall
    have h51 : x 51 = .bool false := hall 26 (by decide)
    simp only [Reg.frame, Reg.over, Nat.reduceAdd, Nat.reduceLeDiff, decide_true, decide_false, if_true, Bool.false_eq_true, if_false, h51]
    have h112 := (hbu.cell (p := ⟨bb, off + 112, none⟩) hbb).trans (hcc 112 (by omega))
    have h113 := (hbu.cell (p := ⟨bb, off + 113, none⟩) hbb).trans (hcc 113 (by omega))
    have e112 : (S.take 112 ++ [1, 2]).getD 112 0 = 1 := by rw [List.getD, List.getElem?_append_right (by simp [HL.out])]; simp [HL.out]
    have e113 : (S.take 112 ++ [1, 2]).getD 113 0 = 2 := by rw [List.getD, List.getElem?_append_right (by simp [HL.out])]; simp [HL.out]
    rw [e112] at h112
    rw [e113] at h113
    have hbb := Nat.lt_of_lt_of_le hbb hbu.size
    have hLB2 := (hLB.on hbu).head (h := 112) (by omega)
    have e112' : List.take 112 (List.take 112 S ++ ([1, 2] : List Int)) = List.take 112 S := by rw [List.take_append_of_le_length (by simp [HL.out]), List.take_take]; rfl
    rw [e112'] at hLB2
    have hLS2 := (hLS.on hbu).head (h := 112) (by omega)
    have hsl1 := fun W => uptoSyms (some ⟨bb, off, none⟩) 114 c2 112 (by omega) (by omega) W
    rw [show (112 : Int).toNat = 112 from rfl] at hsl1
    have hsl2 := fun W => uptoSyms (some ⟨gs, 0, none⟩) 114 114 112 (by omega) (by omega) W
    rw [show (112 : Int).toNat = 112 from rfl] at hsl2
    have hb3 := below_then hb3 hbu
    clear hbu hall hcc hLA hLS hLB hFR hPY e112 e113 e112' HO
    go_wp2_with fail
    refine Reg.wp_slots (fun t => t == 0 || decide (52 ≤ t)) (by kernel_rfl) (by kernel_rfl) (by kernel_rfl) (fun zz => (Reg.tbl [
      (52, .is (.slice (some ⟨bb, off, none⟩) 114 c2)),
      (53, .is (.slice (some ⟨bb, off, none⟩) 112 c2)),
      (54, .is (.slice (some ⟨gs, 0, none⟩) 114 114)),
      (55, .is (.slice (some ⟨gs, 0, none⟩) 112 114)),
      (56, .is (.bool true)),
      (57, .is (.bool true)),
      (58, .is (.slice (some ⟨bb, off, none⟩) 114 c2)),
      (59, .is (.pointer (some ⟨bb, off + 112, none⟩))),
      (60, .is (.int .u8 1)),
      (61, .is (.bool true)),
      (62, .is (.bool true)),
      (63, .is (.bool true)),
      (64, .is (.slice (some ⟨bb, off, none⟩) 114 c2)),
      (65, .is (.pointer (some ⟨bb, off + 113, none⟩))),
      (66, .is (.int .u8 2)),
      (67, .is (.bool true)),
      (68, .is (.bool true)),
      (0, .is (.bool true))] zz).P) (fun zz => (Reg.tbl _ zz).on) ?_ ?_
    · simp only [Reg.frame, Reg.over, Nat.reduceAdd, Nat.reduceBEq, Nat.reduceLeDiff, decide_true, decide_false, Bool.or_true, Bool.or_false, if_true, Bool.false_eq_true, if_false]
      refine ⟨?_, ?_, ?_, ?_, ?_, ?_, ?_, ?_, ?_, ?_, ?_, ?_, ?_, ?_, ?_, ?_, ?_, ?_, trivial⟩
      · intro x u hbu hd
        refine wpOp_step rfl fun K hK => ?_
        go_simp
        exact hK _ _ ⟨_, rfl, Below.refl _ _, fun d hd => by cases hd; exact rfl⟩
      · intro x u hbu hd
        have h52 : x 52 = .slice (some ⟨bb, off, none⟩) 114 c2 := hd 0 (by decide)
        have hsl := hsl1 u
        refine wpOp_step rfl fun K hK => ?_
        simp only [h52] at hK ⊢
        go_simp
        exact hK _ _ ⟨_, rfl, Below.refl _ _, fun d hd => by cases hd; exact rfl⟩
      · intro x u hbu hd
        refine wpOp_step rfl fun K hK => ?_
        go_simp
        exact hK _ _ ⟨_, rfl, Below.refl _ _, fun d hd => by cases hd; exact rfl⟩
      · intro x u hbu hd
        have h54 : x 54 = .slice (some ⟨gs, 0, none⟩) 114 114 := hd 2 (by decide)
        have hsl := hsl2 u
        refine wpOp_step rfl fun K hK => ?_
        simp only [h54] at hK ⊢
        go_simp
        exact hK _ _ ⟨_, rfl, Below.refl _ _, fun d hd => by cases hd; exact rfl⟩
      · intro x u hbu hd
        have h53 : x 53 = .slice (some ⟨bb, off, none⟩) 112 c2 := hd 1 (by decide)
        have h55 : x 55 = .slice (some ⟨gs, 0, none⟩) 112 114 := hd 3 (by decide)
        refine wpOp_step rfl fun K hK => ?_
        simp only [h53, h55] at hK ⊢
        go_simp
        refine (same_true _ _ _ _ _ _ (S.take 112) (S.take 112) u (hLB2.on hbu) (hLS2.on hbu) (by omega) (by omega) rfl).mono ?_
        rintro e w9 ⟨rfl, b9⟩
        exact hK _ _ ⟨_, rfl, b9, fun d hd => by cases hd; exact rfl⟩
      · intro x u hbu hd
        have h56 : x 56 = .bool true := hd 4 (by decide)
        refine wpOp_step rfl fun K hK => ?_
        simp only [h56] at hK ⊢
        go_simp
        exact hK _ _ ⟨_, rfl, Below.refl _ _, fun d hd => by cases hd; exact rfl⟩
      · intro x u hbu hd
        have h57 : x 57 = .bool true := hd 5 (by decide)
        refine wpOp_step rfl fun K hK => ?_
        simp only [h57] at hK ⊢
        go_simp
        exact hK _ _ ⟨_, rfl, Below.refl _ _, fun d hd => by cases hd; exact rfl⟩
      · intro x u hbu hd
        have h58 : x 58 = .slice (some ⟨bb, off, none⟩) 114 c2 := hd 6 (by decide)
        have h57 : x 57 = .bool true := hd 5 (by decide)
        have hix := idxSym (n := 114) c2 (b := bb) (off := off) (k := 112) rfl (by omega) u
        rw [show ((112 : Nat) : Int) = 112 from rfl] at hix
        refine wpOp_step rfl fun K hK => ?_
        simp only [h58, h57] at hK ⊢
        go_simp
        exact hK _ _ ⟨_, rfl, Below.refl _ _, fun d hd => by cases hd; exact rfl⟩
      · intro x u hbu hd
        have h59 : x 59 = .pointer (some ⟨bb, off + 112, none⟩) := hd 7 (by decide)
        have h57 : x 57 = .bool true := hd 5 (by decide)
        have hq := (hbu.cell (p := ⟨bb, off + 112, none⟩) hbb).trans h112
        refine wpOp_step rfl fun K hK => ?_
        simp only [h59, h57] at hK ⊢
        go_simp
        exact hK _ _ ⟨_, rfl, Below.refl _ _, fun d hd => by cases hd; exact rfl⟩
      · intro x u hbu hd
        have h60 : x 60 = .int .u8 1 := hd 8 (by decide)
        have h57 : x 57 = .bool true := hd 5 (by decide)
        refine wpOp_step rfl fun K hK => ?_
        simp only [h60, h57] at hK ⊢
        go_simp
        exact hK _ _ ⟨_, rfl, Below.refl _ _, fun d hd => by cases hd; exact rfl⟩
      · intro x u hbu hd
        have h57 : x 57 = .bool true := hd 5 (by decide)
        have h61 : x 61 = .bool true := hd 9 (by decide)
        refine wpOp_step rfl fun K hK => ?_
        simp only [h57, h61] at hK ⊢
        go_simp
        exact hK _ _ ⟨_, rfl, Below.refl _ _, fun d hd => by cases hd; exact rfl⟩
      · intro x u hbu hd
        have h62 : x 62 = .bool true := hd 10 (by decide)
        refine wpOp_step rfl fun K hK => ?_
        simp only [h62] at hK ⊢
        go_simp
        exact hK _ _ ⟨_, rfl, Below.refl _ _, fun d hd => by cases hd; exact rfl⟩
      · intro x u hbu hd
        have h63 : x 63 = .bool true := hd 11 (by decide)
        refine wpOp_step rfl fun K hK => ?_
        simp only [h63] at hK ⊢
        go_simp
        exact hK _ _ ⟨_, rfl, Below.refl _ _, fun d hd => by cases hd; exact rfl⟩
      · intro x u hbu hd
        have h64 : x 64 = .slice (some ⟨bb, off, none⟩) 114 c2 := hd 12 (by decide)
        have h63 : x 63 = .bool true := hd 11 (by decide)
        have hix := idxSym (n := 114) c2 (b := bb) (off := off) (k := 113) rfl (by omega) u
        rw [show ((113 : Nat) : Int) = 113 from rfl] at hix
        refine wpOp_step rfl fun K hK => ?_
        simp only [h64, h63] at hK ⊢
        go_simp
        exact hK _ _ ⟨_, rfl, Below.refl _ _, fun d hd => by cases hd; exact rfl⟩
      · intro x u hbu hd
        have h65 : x 65 = .pointer (some ⟨bb, off + 113, none⟩) := hd 13 (by decide)
        have h63 : x 63 = .bool true := hd 11 (by decide)
        have hq := (hbu.cell (p := ⟨bb, off + 113, none⟩) hbb).trans h113
        refine wpOp_step rfl fun K hK => ?_
        simp only [h65, h63] at hK ⊢
        go_simp
        exact hK _ _ ⟨_, rfl, Below.refl _ _, fun d hd => by cases hd; exact rfl⟩
      · intro x u hbu hd
        have h66 : x 66 = .int .u8 2 := hd 14 (by decide)
        have h63 : x 63 = .bool true := hd 11 (by decide)
        refine wpOp_step rfl fun K hK => ?_
        simp only [h66, h63] at hK ⊢
        go_simp
        exact hK _ _ ⟨_, rfl, Below.refl _ _, fun d hd => by cases hd; exact rfl⟩
      · intro x u hbu hd
        have h63 : x 63 = .bool true := hd 11 (by decide)
        have h67 : x 67 = .bool true := hd 15 (by decide)
        refine wpOp_step rfl fun K hK => ?_
        simp only [h63, h67] at hK ⊢
        go_simp
        exact hK _ _ ⟨_, rfl, Below.refl _ _, fun d hd => by cases hd; exact rfl⟩
      · intro x u hbu hd
        have h68 : x 68 = .bool true := hd 16 (by decide)
        refine wpOp_step rfl fun K hK => ?_
        simp only [h68] at hK ⊢
        go_simp
        exact hK _ _ ⟨_, rfl, Below.refl _ _, fun d hd => by cases hd; exact rfl⟩
    · intro x u hbu hall
      have h0 : x 0 = .bool true := hall 17 (by decide)
      simp only [Reg.frame, Reg.over, Nat.reduceAdd, Nat.reduceBEq, Nat.reduceLeDiff, decide_true, decide_false, Bool.or_true, Bool.or_false, if_true, Bool.false_eq_true, if_false, h0]
      go_wp2_with fail
      go_ret
      exact ⟨rfl, below_then hb3 hbu⟩
end Go.Proofs.Ytpjcbfapkjipjaa

