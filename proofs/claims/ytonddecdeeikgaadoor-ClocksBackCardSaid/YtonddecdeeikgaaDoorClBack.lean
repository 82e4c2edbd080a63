/-
  The law ClocksBack, walked: of each age there is one time, of which it is the age; a tick later it is a place, or a slot, or a round on; slots ahead count by one each slot's length: true; nothing that was there has turned. Conditions: the config's reading; the table of directions is as the program's text lays it.
-/
import Derived.Test.YtonddecdeeikgaaDoorCl9
import Derived.Test.YtonddecdeeikgaaDoorAnd40
namespace Go.Proofs.YtonddecdeeikgaaDoor
open Go.RowKit Cl Rg
set_option linter.unusedVariables false

theorem clocksBack_none (c : Cf) (age : Int) (w : World) (hw : Ways w) (HN : ∀ u, Below w.heap.size w u → Calls Tryd.prog 8 #[.agg #[.int .i64 c.N, .slice c.pA c.pn c.pc, .slice c.sA c.sn c.sc, .int .i64 c.L, .slice c.bA c.bn c.bc, .slice c.tA c.tn c.tc, .int .i64 c.M, .int .i64 c.G, .int .i64 c.F]] u fun e w' => e = .returned (.pointer none) ∧ Below u.heap.size u w') :
    Calls Tryd.prog 5 #[.agg #[.int .i64 c.N, .slice c.pA c.pn c.pc, .slice c.sA c.sn c.sc, .int .i64 c.L, .slice c.bA c.bn c.bc, .slice c.tA c.tn c.tc, .int .i64 c.M, .int .i64 c.G, .int .i64 c.F], .int .i64 age] w fun e w' => e = .returned (.bool true) ∧ Below w.heap.size w w' := by
  have hB0 : Below w.heap.size w (w.alloc (.cells #[.int .i64 c.N, .slice c.pA c.pn c.pc, .slice c.sA c.sn c.sc, .int .i64 c.L, .slice c.bA c.bn c.bc, .slice c.tA c.tn c.tc, .int .i64 c.M, .int .i64 c.G, .int .i64 c.F] 25)) := below_al (Below.refl w.heap.size w) (.cells #[.int .i64 c.N, .slice c.pA c.pn c.pc, .slice c.sA c.sn c.sc, .int .i64 c.L, .slice c.bA c.bn c.bc, .slice c.tA c.tn c.tc, .int .i64 c.M, .int .i64 c.G, .int .i64 c.F] 25)
  have HM := Lib.hid HN
  clear HN
  go_enter Tryd.func5, Tryd.ntmps5
  go_wp2_with (first
    | (go_at_call 8; (with_reducible refine (HM.out _ hB0).mono ?_); rintro e w1 ⟨rfl, b1⟩; have hB1 := below_then hB0 b1)
    | (go_at_call 9; (with_reducible refine (lives_clk _ (hw.on hB1)).mono ?_); rintro e w2 ⟨rfl, b2⟩))
  go_ret
  exact ⟨rfl, below_then hB1 b2⟩
theorem ofT_age {s L a : Int} (h : 0 ≤ a) (h' : a ≤ 1099511627776) : ofT s L a = timeM s L a ∧ ofE a = 0 := by
  have hi : Cl.isAge a = true := by simp [Cl.isAge, h, h']
  simp [ofT, ofE, hi]
set_option maxRecDepth 100000 in
set_option maxHeartbeats 4000000 in
theorem clocksBack_yes (c : Cf) (age : Int) (w : World) (hw : Ways w) (hc : CfIn w c) (hg : greatB c = false) (h0 : newE c = 0) :
    Calls Tryd.prog 5 #[.agg #[.int .i64 c.N, .slice c.pA c.pn c.pc, .slice c.sA c.sn c.sc, .int .i64 c.L, .slice c.bA c.bn c.bc, .slice c.tA c.tn c.tc, .int .i64 c.M, .int .i64 c.G, .int .i64 c.F], .int .i64 age] w fun e w' => e = .returned (.bool true) ∧ Below w.heap.size w w' := by
  have hB0 : Below w.heap.size w (w.alloc (.cells #[.int .i64 c.N, .slice c.pA c.pn c.pc, .slice c.sA c.sn c.sc, .int .i64 c.L, .slice c.bA c.bn c.bc, .slice c.tA c.tn c.tc, .int .i64 c.M, .int .i64 c.G, .int .i64 c.F] 25)) := below_al (Below.refl w.heap.size w) (.cells #[.int .i64 c.N, .slice c.pA c.pn c.pc, .slice c.sA c.sn c.sc, .int .i64 c.L, .slice c.bA c.bn c.bc, .slice c.tA c.tn c.tc, .int .i64 c.M, .int .i64 c.G, .int .i64 c.F] 25)
  have HW0 := Lib.hid (hw.on hB0)
  have HIN0 := Lib.hid (hc.on hB0)
  have HB0 := Lib.hid hB0
  have HC0 := Lib.hid (Blk.new w 25 #[.int .i64 c.N, .slice c.pA c.pn c.pc, .slice c.sA c.sn c.sc, .int .i64 c.L, .slice c.bA c.bn c.bc, .slice c.tA c.tn c.tc, .int .i64 c.M, .int .i64 c.G, .int .i64 c.F])
  have HG := Lib.hid hg
  have H0 := Lib.hid h0
  have hs := cf_sc h0
  obtain ⟨a, ha⟩ : ∃ a, a = bits .and .i64 age 1099511627775 := ⟨_, rfl⟩
  have hab := and40 age
  rw [← ha] at hab
  have ha' := ha.symm
  obtain ⟨ha0, ha1⟩ := hab
  clear ha
  have hn := time_next (s := c.sn) (L := c.L) (a := a) hs.s1 hs.l1 ha0
  have hbd := time_bd (s := c.sn) (L := c.L) (a := a) hs.s1 hs.l1 ha0
  have hht := has_time (s := c.sn) (L := c.L) (a := a) hs.s1 hs.l1 ha0 (by omega)
  have hta := time_age (s := c.sn) (L := c.L) (a := a)
  have hut := up_time (s := c.sn) (L := c.L) (a := a) hs.s1 hs.l1 ha0
  obtain ⟨X, hX⟩ : ∃ X, X = timeM c.sn c.L a := ⟨_, rfl⟩
  obtain ⟨Y, hY⟩ : ∃ Y, Y = timeM c.sn c.L (a + 1) := ⟨_, rfl⟩
  rw [← hX, ← hY] at hn
  rw [← hX] at hbd hht hta hut
  have HX := Lib.hid (show ofT c.sn c.L a = X by rw [hX]; exact (ofT_age ha0 (by omega)).1)
  have HE := Lib.hid (show ofE a = 0 from (ofT_age (s := c.sn) (L := c.L) ha0 (by omega)).2)
  have HX2 := Lib.hid (show ofT c.sn c.L (a + 1) = Y by rw [hY]; exact (ofT_age (by omega) (by omega)).1)
  have HE2 := Lib.hid (show ofE (a + 1) = 0 from (ofT_age (s := c.sn) (L := c.L) (by omega) (by omega)).2)
  have HAG := Lib.hid (show agA c.sn c.L X = a by simp only [agA, hht, if_true, hta])
  have HAE := Lib.hid (show agE c.sn c.L X = 0 by simp only [agE, hht, if_true])
  obtain ⟨y, hy⟩ : ∃ y, y = a / c.L := ⟨_, rfl⟩
  have HY := Lib.hid (show ahA c.sn c.L X = y by simp only [ahA, hht, if_true, hut, hy])
  have hy0 : 0 ≤ y := by rw [hy]; exact Int.ediv_nonneg ha0 (by have := hs.l1; omega)
  have hy1 : y ≤ a := by rw [hy]; exact Int.ediv_le_self _ ha0
  have hd : a.tdiv c.L = y := by rw [hy]; exact Int.tdiv_eq_ediv_of_nonneg ha0
  have hw1 : IntKind.i64.wrap y = y := IntWalk.i64_in _ (by omega)
  have hw2 : IntKind.i64.wrap (a + 1) = a + 1 := IntWalk.i64_in _ (by omega)
  have n1 : c.L ≠ 0 := by have := hs.l1; omega
  have n2 : (c.L == 0) = false := beq_eq_false_iff_ne.2 n1
  have HBD := Lib.hid hbd
  have HN := Lib.hid hn
  have HSC := Lib.hid hs
  have HA0 := Lib.hid ha0
  have HA1 := Lib.hid ha1
  have d1 : decide (X.k < 0) = false := decide_eq_false (by omega)
  have d2 : decide ((c.sn : Int) ≤ X.k) = false := decide_eq_false (by omega)
  have d3 : decide (X.p < 0) = false := decide_eq_false (by omega)
  have d4 : decide (c.L ≤ X.p) = false := decide_eq_false (by omega)
  clear hn hbd hht hta hut hX hY hy hs hw hc hg h0 hB0
  go_enter Tryd.func5, Tryd.ntmps5
  go_wp2_with (first
    | (go_at_call 8; (with_reducible refine (lawNet_yes c _ HW0.out HIN0.out HG.out H0.out).mono ?_); rintro e w1 ⟨gN, rfl, hN1, b1⟩)
    | (go_at_call 10; (with_reducible refine (nOf_is _ c.sn c.L a X HX.out 0 HE.out w1 hN1).mono ?_); rintro e w2 ⟨rfl, b2⟩; have b2' := below_al b2 (.cells #[.int .i64 X.r, .int .i64 X.k, .int .i64 X.p] 27); have hX2 := Blk.new w2 27 #[.int .i64 X.r, .int .i64 X.k, .int .i64 X.p]; have hN2 := hN1.on b2')
    | (go_at_call 10; (with_reducible refine (nOf_is _ c.sn c.L (a + 1) Y HX2.out 0 HE2.out _ hN2).mono ?_); rintro e w3 ⟨rfl, b3⟩; have b3' := below_al b3 (.cells #[.int .i64 Y.r, .int .i64 Y.k, .int .i64 Y.p] 27); have hY3 := Blk.new w3 27 #[.int .i64 Y.r, .int .i64 Y.k, .int .i64 Y.p]; have hN3 := hN2.on b3'; have hX3 := hX2.on b3'; have x0 := hX3.cell 0; have x1 := hX3.cell 1; have x2 := hX3.cell 2; have xl := hX3.lt; simp only [List.getElem?_toArray, List.getElem?_cons_zero, List.getElem?_cons_succ] at x0 x1 x2)
    | (go_at_call 12; (with_reducible refine (nAge_is _ c.sn c.L X a HAG.out 0 HAE.out _ hN3).mono ?_); rintro e w4 ⟨rfl, b4⟩; clear x0 x1 x2 xl))
  have B4 := below_then (below_then (below_then b1 b2') b3') b4
  have HC := Lib.hid (HC0.out.on B4)
  have HX6 := Lib.hid (hX3.on b4)
  have HY8 := Lib.hid (hY3.on b4)
  have HNS := Lib.hid (hN3.on b4)
  have HW := Lib.hid (HW0.out.on B4)
  have HBB := Lib.hid (below_then HB0.out B4)
  obtain ⟨g6, hg6⟩ : ∃ g6, g6 = w2.heap.size := ⟨_, rfl⟩
  obtain ⟨g8, hg8⟩ : ∃ g8, g8 = w3.heap.size := ⟨_, rfl⟩
  rw [← hg6] at HX6
  rw [← hg8] at HY8
  simp only [← hg6, ← hg8]
  clear b1 b2 b2' b3 b3' b4 B4 hN1 hN2 hN3 hX2 hX3 hY3 HW0 HIN0 HC0 HB0 hg6 hg8
  refine Reg.wp_slots (fun t => decide (38 ≤ t) && decide (t ≤ 87)) (by kernel_rfl) (by kernel_rfl) (by kernel_rfl) (fun zz => (Reg.tbl [
    (38, .is (.int .i64 0)),
    (39, .is (.bool false)),
    (40, .is (.bool false)),
    (41, .is (.int .i64 0)),
    (42, .is (.bool false)),
    (43, .is (.bool false)),
    (44, .is (.bool false)),
    (45, .is (.int .i64 0)),
    (46, .is (.bool false)),
    (47, .is (.bool false)),
    (48, .is (.bool false)),
    (49, .is (.int .i64 a)),
    (50, .is (.int .i64 a)),
    (51, .is (.bool false)),
    (52, .is (.bool false)),
    (53, .is (.bool false)),
    (54, .is (.pointer (some ⟨gN, 0, none⟩))),
    (55, .is (.agg #[.int .i64 X.r, .int .i64 X.k, .int .i64 X.p])),
    (56, .is (.int .i64 y)),
    (57, .is (.int .i64 a)),
    (58, .is (.pointer (some ⟨w.heap.size, 3, none⟩))),
    (59, .is (.int .i64 c.L)),
    (60, .is (.int .i64 y)),
    (61, .is (.bool false)),
    (62, .is (.bool false)),
    (63, .is (.bool false)),
    (64, .is (.pointer (some ⟨g6, 1, none⟩))),
    (65, .is (.int .i64 X.k)),
    (66, .is (.bool false)),
    (67, .is (.bool false)),
    (68, .is (.bool false)),
    (69, .is (.pointer (some ⟨g6, 1, none⟩))),
    (70, .is (.int .i64 X.k)),
    (71, .is (.pointer (some ⟨w.heap.size, 2, none⟩))),
    (72, .is (.slice c.sA c.sn c.sc)),
    (73, .is (.int .i64 c.sn)),
    (74, .is (.bool false)),
    (75, .is (.bool false)),
    (76, .is (.bool false)),
    (77, .is (.pointer (some ⟨g6, 2, none⟩))),
    (78, .is (.int .i64 X.p)),
    (79, .is (.bool false)),
    (80, .is (.bool false)),
    (81, .is (.bool false)),
    (82, .is (.pointer (some ⟨g6, 2, none⟩))),
    (83, .is (.int .i64 X.p)),
    (84, .is (.pointer (some ⟨w.heap.size, 3, none⟩))),
    (85, .is (.int .i64 c.L)),
    (86, .is (.bool false)),
    (87, .is (.bool false))] zz).P) (fun zz => (Reg.tbl _ zz).on) ?_ ?_
  · simp only [Reg.frame, Reg.over, Nat.reduceAdd, Nat.reduceLeDiff, decide_true, decide_false, if_true, Bool.false_eq_true, if_false, Bool.and_true, Bool.and_false]
    refine ⟨?_, ?_, ?_, ?_, ?_, ?_, ?_, ?_, ?_, ?_, ?_, ?_, ?_, ?_, ?_, ?_, ?_, ?_, ?_, ?_, ?_, ?_, ?_, ?_, ?_, ?_, ?_, ?_, ?_, ?_, ?_, ?_, ?_, ?_, ?_, ?_, ?_, ?_, ?_, ?_, ?_, ?_, ?_, ?_, ?_, ?_, ?_, ?_, ?_, ?_, trivial⟩
    · intro x u hbu hd
      refine wpOp_step rfl fun K hK => ?_
      go_simp
      exact hK _ _ ⟨_, rfl, Below.refl _ _, fun d hd => by cases hd; exact rfl⟩
    · intro x u hbu hd
      have h38 : x 38 = .int .i64 0 := hd 0 (by decide)
      refine wpOp_step rfl fun K hK => ?_
      simp only [h38] at hK ⊢
      go_simp
      exact hK _ _ ⟨_, rfl, Below.refl _ _, fun d hd => by cases hd; exact rfl⟩
    · intro x u hbu hd
      have h39 : x 39 = .bool false := hd 1 (by decide)
      refine wpOp_step rfl fun K hK => ?_
      simp only [h39] at hK ⊢
      go_simp
      exact hK _ _ ⟨_, rfl, Below.refl _ _, fun d hd => by cases hd; exact rfl⟩
    · intro x u hbu hd
      have h40 : x 40 = .bool false := hd 2 (by decide)
      refine wpOp_step rfl fun K hK => ?_
      simp only [h40] at hK ⊢
      go_simp
      exact hK _ _ ⟨_, rfl, Below.refl _ _, fun d hd => by cases hd; exact rfl⟩
    · intro x u hbu hd
      have h41 : x 41 = .int .i64 0 := hd 3 (by decide)
      have h40 : x 40 = .bool false := hd 2 (by decide)
      refine wpOp_step rfl fun K hK => ?_
      simp only [h41, h40] at hK ⊢
      go_simp
      exact hK _ _ ⟨_, rfl, Below.refl _ _, fun d hd => by cases hd; exact rfl⟩
    · intro x u hbu hd
      have h40 : x 40 = .bool false := hd 2 (by decide)
      have h42 : x 42 = .bool false := hd 4 (by decide)
      refine wpOp_step rfl fun K hK => ?_
      simp only [h40, h42] at hK ⊢
      go_simp
      exact hK _ _ ⟨_, rfl, Below.refl _ _, fun d hd => by cases hd; exact rfl⟩
    · intro x u hbu hd
      have h43 : x 43 = .bool false := hd 5 (by decide)
      refine wpOp_step rfl fun K hK => ?_
      simp only [h43] at hK ⊢
      go_simp
      exact hK _ _ ⟨_, rfl, Below.refl _ _, fun d hd => by cases hd; exact rfl⟩
    · intro x u hbu hd
      have h44 : x 44 = .bool false := hd 6 (by decide)
      refine wpOp_step rfl fun K hK => ?_
      simp only [h44] at hK ⊢
      go_simp
      exact hK _ _ ⟨_, rfl, Below.refl _ _, fun d hd => by cases hd; exact rfl⟩
    · intro x u hbu hd
      have h45 : x 45 = .int .i64 0 := hd 7 (by decide)
      have h44 : x 44 = .bool false := hd 6 (by decide)
      refine wpOp_step rfl fun K hK => ?_
      simp only [h45, h44] at hK ⊢
      go_simp
      exact hK _ _ ⟨_, rfl, Below.refl _ _, fun d hd => by cases hd; exact rfl⟩
    · intro x u hbu hd
      have h44 : x 44 = .bool false := hd 6 (by decide)
      have h46 : x 46 = .bool false := hd 8 (by decide)
      refine wpOp_step rfl fun K hK => ?_
      simp only [h44, h46] at hK ⊢
      go_simp
      exact hK _ _ ⟨_, rfl, Below.refl _ _, fun d hd => by cases hd; exact rfl⟩
    · intro x u hbu hd
      have h47 : x 47 = .bool false := hd 9 (by decide)
      refine wpOp_step rfl fun K hK => ?_
      simp only [h47] at hK ⊢
      go_simp
      exact hK _ _ ⟨_, rfl, Below.refl _ _, fun d hd => by cases hd; exact rfl⟩
    · intro x u hbu hd
      have h48 : x 48 = .bool false := hd 10 (by decide)
      refine wpOp_step rfl fun K hK => ?_
      simp only [h48] at hK ⊢
      go_simp
      exact hK _ _ ⟨_, rfl, Below.refl _ _, fun d hd => by cases hd; exact rfl⟩
    · intro x u hbu hd
      have h48 : x 48 = .bool false := hd 10 (by decide)
      refine wpOp_step rfl fun K hK => ?_
      simp only [h48] at hK ⊢
      go_simp
      exact hK _ _ ⟨_, rfl, Below.refl _ _, fun d hd => by cases hd; exact rfl⟩
    · intro x u hbu hd
      have h49 : x 49 = .int .i64 a := hd 11 (by decide)
      have h50 : x 50 = .int .i64 a := hd 12 (by decide)
      have h48 : x 48 = .bool false := hd 10 (by decide)
      refine wpOp_step rfl fun K hK => ?_
      simp only [h49, h50, h48] at hK ⊢
      go_simp
      first
        | exact hK _ _ ⟨_, rfl, Below.refl _ _, fun d hd => by cases hd; exact rfl⟩
        | exact hK _ _ ⟨_, rfl, Below.refl _ _, fun d hd => by cases hd; exact congrArg Value.bool (bne_self_eq_false _)⟩
    · intro x u hbu hd
      have h48 : x 48 = .bool false := hd 10 (by decide)
      have h51 : x 51 = .bool false := hd 13 (by decide)
      refine wpOp_step rfl fun K hK => ?_
      simp only [h48, h51] at hK ⊢
      go_simp
      exact hK _ _ ⟨_, rfl, Below.refl _ _, fun d hd => by cases hd; exact rfl⟩
    · intro x u hbu hd
      have h52 : x 52 = .bool false := hd 14 (by decide)
      refine wpOp_step rfl fun K hK => ?_
      simp only [h52] at hK ⊢
      go_simp
      exact hK _ _ ⟨_, rfl, Below.refl _ _, fun d hd => by cases hd; exact rfl⟩
    · intro x u hbu hd
      have h53 : x 53 = .bool false := hd 15 (by decide)
      refine wpOp_step rfl fun K hK => ?_
      simp only [h53] at hK ⊢
      go_simp
      exact hK _ _ ⟨_, rfl, Below.refl _ _, fun d hd => by cases hd; exact rfl⟩
    · intro x u hbu hd
      have h53 : x 53 = .bool false := hd 15 (by decide)
      have x0 := (HX6.out.on hbu).cell 0
      have x1 := (HX6.out.on hbu).cell 1
      have x2 := (HX6.out.on hbu).cell 2
      have xl := (HX6.out.on hbu).lt
      simp only [List.getElem?_toArray, List.getElem?_cons_zero, List.getElem?_cons_succ] at x0 x1 x2
      refine wpOp_step rfl fun K hK => ?_
      simp only [h53] at hK ⊢
      go_simp
      exact hK _ _ ⟨_, rfl, Below.refl _ _, fun d hd => by cases hd; exact rfl⟩
    · intro x u hbu hd
      have h54 : x 54 = .pointer (some ⟨gN, 0, none⟩) := hd 16 (by decide)
      have h55 : x 55 = .agg #[.int .i64 X.r, .int .i64 X.k, .int .i64 X.p] := hd 17 (by decide)
      have h53 : x 53 = .bool false := hd 15 (by decide)
      refine wpOp_step rfl fun K hK => ?_
      simp only [h54, h55, h53] at hK ⊢
      go_simp
      with_reducible refine (nAhead_is _ c.sn c.L X y HY.out _ (HNS.out.on hbu)).mono ?_
      rintro e u' ⟨rfl, hb'⟩
      exact hK _ _ ⟨_, rfl, hb', fun d hd => by cases hd; exact rfl⟩
    · intro x u hbu hd
      have h53 : x 53 = .bool false := hd 15 (by decide)
      refine wpOp_step rfl fun K hK => ?_
      simp only [h53] at hK ⊢
      go_simp
      exact hK _ _ ⟨_, rfl, Below.refl _ _, fun d hd => by cases hd; exact rfl⟩
    · intro x u hbu hd
      have h53 : x 53 = .bool false := hd 15 (by decide)
      obtain ⟨k0, k1, k2, k3, k4, k5, k6, k7, k8⟩ := (HC.out.on hbu).cf
      have kl := (HC.out.on hbu).lt
      refine wpOp_step rfl fun K hK => ?_
      simp only [h53] at hK ⊢
      go_simp
      exact hK _ _ ⟨_, rfl, Below.refl _ _, fun d hd => by cases hd; exact rfl⟩
    · intro x u hbu hd
      have h58 : x 58 = .pointer (some ⟨w.heap.size, 3, none⟩) := hd 20 (by decide)
      have h53 : x 53 = .bool false := hd 15 (by decide)
      obtain ⟨k0, k1, k2, k3, k4, k5, k6, k7, k8⟩ := (HC.out.on hbu).cf
      have kl := (HC.out.on hbu).lt
      refine wpOp_step rfl fun K hK => ?_
      simp only [h58, h53] at hK ⊢
      go_simp
      exact hK _ _ ⟨_, rfl, Below.refl _ _, fun d hd => by cases hd; exact rfl⟩
    · intro x u hbu hd
      have h57 : x 57 = .int .i64 a := hd 19 (by decide)
      have h59 : x 59 = .int .i64 c.L := hd 21 (by decide)
      have h53 : x 53 = .bool false := hd 15 (by decide)
      refine wpOp_step rfl fun K hK => ?_
      simp only [h57, h59, h53] at hK ⊢
      go_simp
      exact hK _ _ ⟨_, rfl, Below.refl _ _, fun d hd => by cases hd; exact rfl⟩
    · intro x u hbu hd
      have h56 : x 56 = .int .i64 y := hd 18 (by decide)
      have h60 : x 60 = .int .i64 y := hd 22 (by decide)
      have h53 : x 53 = .bool false := hd 15 (by decide)
      refine wpOp_step rfl fun K hK => ?_
      simp only [h56, h60, h53] at hK ⊢
      go_simp
      first
        | exact hK _ _ ⟨_, rfl, Below.refl _ _, fun d hd => by cases hd; exact rfl⟩
        | exact hK _ _ ⟨_, rfl, Below.refl _ _, fun d hd => by cases hd; exact congrArg Value.bool (bne_self_eq_false _)⟩
    · intro x u hbu hd
      have h53 : x 53 = .bool false := hd 15 (by decide)
      have h61 : x 61 = .bool false := hd 23 (by decide)
      refine wpOp_step rfl fun K hK => ?_
      simp only [h53, h61] at hK ⊢
      go_simp
      exact hK _ _ ⟨_, rfl, Below.refl _ _, fun d hd => by cases hd; exact rfl⟩
    · intro x u hbu hd
      have h62 : x 62 = .bool false := hd 24 (by decide)
      refine wpOp_step rfl fun K hK => ?_
      simp only [h62] at hK ⊢
      go_simp
      exact hK _ _ ⟨_, rfl, Below.refl _ _, fun d hd => by cases hd; exact rfl⟩
    · intro x u hbu hd
      have h63 : x 63 = .bool false := hd 25 (by decide)
      have x0 := (HX6.out.on hbu).cell 0
      have x1 := (HX6.out.on hbu).cell 1
      have x2 := (HX6.out.on hbu).cell 2
      have xl := (HX6.out.on hbu).lt
      simp only [List.getElem?_toArray, List.getElem?_cons_zero, List.getElem?_cons_succ] at x0 x1 x2
      refine wpOp_step rfl fun K hK => ?_
      simp only [h63] at hK ⊢
      go_simp
      exact hK _ _ ⟨_, rfl, Below.refl _ _, fun d hd => by cases hd; exact rfl⟩
    · intro x u hbu hd
      have h64 : x 64 = .pointer (some ⟨g6, 1, none⟩) := hd 26 (by decide)
      have h63 : x 63 = .bool false := hd 25 (by decide)
      have x0 := (HX6.out.on hbu).cell 0
      have x1 := (HX6.out.on hbu).cell 1
      have x2 := (HX6.out.on hbu).cell 2
      have xl := (HX6.out.on hbu).lt
      simp only [List.getElem?_toArray, List.getElem?_cons_zero, List.getElem?_cons_succ] at x0 x1 x2
      refine wpOp_step rfl fun K hK => ?_
      simp only [h64, h63] at hK ⊢
      go_simp
      exact hK _ _ ⟨_, rfl, Below.refl _ _, fun d hd => by cases hd; exact rfl⟩
    · intro x u hbu hd
      have h65 : x 65 = .int .i64 X.k := hd 27 (by decide)
      have h63 : x 63 = .bool false := hd 25 (by decide)
      refine wpOp_step rfl fun K hK => ?_
      simp only [h65, h63] at hK ⊢
      go_simp
      exact hK _ _ ⟨_, rfl, Below.refl _ _, fun d hd => by cases hd; exact rfl⟩
    · intro x u hbu hd
      have h63 : x 63 = .bool false := hd 25 (by decide)
      have h66 : x 66 = .bool false := hd 28 (by decide)
      refine wpOp_step rfl fun K hK => ?_
      simp only [h63, h66] at hK ⊢
      go_simp
      exact hK _ _ ⟨_, rfl, Below.refl _ _, fun d hd => by cases hd; exact rfl⟩
    · intro x u hbu hd
      have h67 : x 67 = .bool false := hd 29 (by decide)
      refine wpOp_step rfl fun K hK => ?_
      simp only [h67] at hK ⊢
      go_simp
      exact hK _ _ ⟨_, rfl, Below.refl _ _, fun d hd => by cases hd; exact rfl⟩
    · intro x u hbu hd
      have h68 : x 68 = .bool false := hd 30 (by decide)
      have x0 := (HX6.out.on hbu).cell 0
      have x1 := (HX6.out.on hbu).cell 1
      have x2 := (HX6.out.on hbu).cell 2
      have xl := (HX6.out.on hbu).lt
      simp only [List.getElem?_toArray, List.getElem?_cons_zero, List.getElem?_cons_succ] at x0 x1 x2
      refine wpOp_step rfl fun K hK => ?_
      simp only [h68] at hK ⊢
      go_simp
      exact hK _ _ ⟨_, rfl, Below.refl _ _, fun d hd => by cases hd; exact rfl⟩
    · intro x u hbu hd
      have h69 : x 69 = .pointer (some ⟨g6, 1, none⟩) := hd 31 (by decide)
      have h68 : x 68 = .bool false := hd 30 (by decide)
      have x0 := (HX6.out.on hbu).cell 0
      have x1 := (HX6.out.on hbu).cell 1
      have x2 := (HX6.out.on hbu).cell 2
      have xl := (HX6.out.on hbu).lt
      simp only [List.getElem?_toArray, List.getElem?_cons_zero, List.getElem?_cons_succ] at x0 x1 x2
      refine wpOp_step rfl fun K hK => ?_
      simp only [h69, h68] at hK ⊢
      go_simp
      exact hK _ _ ⟨_, rfl, Below.refl _ _, fun d hd => by cases hd; exact rfl⟩
    · intro x u hbu hd
      have h68 : x 68 = .bool false := hd 30 (by decide)
      obtain ⟨k0, k1, k2, k3, k4, k5, k6, k7, k8⟩ := (HC.out.on hbu).cf
      have kl := (HC.out.on hbu).lt
      refine wpOp_step rfl fun K hK => ?_
      simp only [h68] at hK ⊢
      go_simp
      exact hK _ _ ⟨_, rfl, Below.refl _ _, fun d hd => by cases hd; exact rfl⟩
    · intro x u hbu hd
      have h71 : x 71 = .pointer (some ⟨w.heap.size, 2, none⟩) := hd 33 (by decide)
      have h68 : x 68 = .bool false := hd 30 (by decide)
      obtain ⟨k0, k1, k2, k3, k4, k5, k6, k7, k8⟩ := (HC.out.on hbu).cf
      have kl := (HC.out.on hbu).lt
      refine wpOp_step rfl fun K hK => ?_
      simp only [h71, h68] at hK ⊢
      go_simp
      exact hK _ _ ⟨_, rfl, Below.refl _ _, fun d hd => by cases hd; exact rfl⟩
    · intro x u hbu hd
      have h72 : x 72 = .slice c.sA c.sn c.sc := hd 34 (by decide)
      have h68 : x 68 = .bool false := hd 30 (by decide)
      refine wpOp_step rfl fun K hK => ?_
      simp only [h72, h68] at hK ⊢
      go_simp
      exact hK _ _ ⟨_, rfl, Below.refl _ _, fun d hd => by cases hd; exact rfl⟩
    · intro x u hbu hd
      have h70 : x 70 = .int .i64 X.k := hd 32 (by decide)
      have h73 : x 73 = .int .i64 c.sn := hd 35 (by decide)
      have h68 : x 68 = .bool false := hd 30 (by decide)
      refine wpOp_step rfl fun K hK => ?_
      simp only [h70, h73, h68] at hK ⊢
      go_simp
      exact hK _ _ ⟨_, rfl, Below.refl _ _, fun d hd => by cases hd; exact rfl⟩
    · intro x u hbu hd
      have h68 : x 68 = .bool false := hd 30 (by decide)
      have h74 : x 74 = .bool false := hd 36 (by decide)
      refine wpOp_step rfl fun K hK => ?_
      simp only [h68, h74] at hK ⊢
      go_simp
      exact hK _ _ ⟨_, rfl, Below.refl _ _, fun d hd => by cases hd; exact rfl⟩
    · intro x u hbu hd
      have h75 : x 75 = .bool false := hd 37 (by decide)
      refine wpOp_step rfl fun K hK => ?_
      simp only [h75] at hK ⊢
      go_simp
      exact hK _ _ ⟨_, rfl, Below.refl _ _, fun d hd => by cases hd; exact rfl⟩
    · intro x u hbu hd
      have h76 : x 76 = .bool false := hd 38 (by decide)
      have x0 := (HX6.out.on hbu).cell 0
      have x1 := (HX6.out.on hbu).cell 1
      have x2 := (HX6.out.on hbu).cell 2
      have xl := (HX6.out.on hbu).lt
      simp only [List.getElem?_toArray, List.getElem?_cons_zero, List.getElem?_cons_succ] at x0 x1 x2
      refine wpOp_step rfl fun K hK => ?_
      simp only [h76] at hK ⊢
      go_simp
      exact hK _ _ ⟨_, rfl, Below.refl _ _, fun d hd => by cases hd; exact rfl⟩
    · intro x u hbu hd
      have h77 : x 77 = .pointer (some ⟨g6, 2, none⟩) := hd 39 (by decide)
      have h76 : x 76 = .bool false := hd 38 (by decide)
      have x0 := (HX6.out.on hbu).cell 0
      have x1 := (HX6.out.on hbu).cell 1
      have x2 := (HX6.out.on hbu).cell 2
      have xl := (HX6.out.on hbu).lt
      simp only [List.getElem?_toArray, List.getElem?_cons_zero, List.getElem?_cons_succ] at x0 x1 x2
      refine wpOp_step rfl fun K hK => ?_
      simp only [h77, h76] at hK ⊢
      go_simp
      exact hK _ _ ⟨_, rfl, Below.refl _ _, fun d hd => by cases hd; exact rfl⟩
    · intro x u hbu hd
      have h78 : x 78 = .int .i64 X.p := hd 40 (by decide)
      have h76 : x 76 = .bool false := hd 38 (by decide)
      refine wpOp_step rfl fun K hK => ?_
      simp only [h78, h76] at hK ⊢
      go_simp
      exact hK _ _ ⟨_, rfl, Below.refl _ _, fun d hd => by cases hd; exact rfl⟩
    · intro x u hbu hd
      have h76 : x 76 = .bool false := hd 38 (by decide)
      have h79 : x 79 = .bool false := hd 41 (by decide)
      refine wpOp_step rfl fun K hK => ?_
      simp only [h76, h79] at hK ⊢
      go_simp
      exact hK _ _ ⟨_, rfl, Below.refl _ _, fun d hd => by cases hd; exact rfl⟩
    · intro x u hbu hd
      have h80 : x 80 = .bool false := hd 42 (by decide)
      refine wpOp_step rfl fun K hK => ?_
      simp only [h80] at hK ⊢
      go_simp
      exact hK _ _ ⟨_, rfl, Below.refl _ _, fun d hd => by cases hd; exact rfl⟩
    · intro x u hbu hd
      have h81 : x 81 = .bool false := hd 43 (by decide)
      have x0 := (HX6.out.on hbu).cell 0
      have x1 := (HX6.out.on hbu).cell 1
      have x2 := (HX6.out.on hbu).cell 2
      have xl := (HX6.out.on hbu).lt
      simp only [List.getElem?_toArray, List.getElem?_cons_zero, List.getElem?_cons_succ] at x0 x1 x2
      refine wpOp_step rfl fun K hK => ?_
      simp only [h81] at hK ⊢
      go_simp
      exact hK _ _ ⟨_, rfl, Below.refl _ _, fun d hd => by cases hd; exact rfl⟩
    · intro x u hbu hd
      have h82 : x 82 = .pointer (some ⟨g6, 2, none⟩) := hd 44 (by decide)
      have h81 : x 81 = .bool false := hd 43 (by decide)
      have x0 := (HX6.out.on hbu).cell 0
      have x1 := (HX6.out.on hbu).cell 1
      have x2 := (HX6.out.on hbu).cell 2
      have xl := (HX6.out.on hbu).lt
      simp only [List.getElem?_toArray, List.getElem?_cons_zero, List.getElem?_cons_succ] at x0 x1 x2
      refine wpOp_step rfl fun K hK => ?_
      simp only [h82, h81] at hK ⊢
      go_simp
      exact hK _ _ ⟨_, rfl, Below.refl _ _, fun d hd => by cases hd; exact rfl⟩
    · intro x u hbu hd
      have h81 : x 81 = .bool false := hd 43 (by decide)
      obtain ⟨k0, k1, k2, k3, k4, k5, k6, k7, k8⟩ := (HC.out.on hbu).cf
      have kl := (HC.out.on hbu).lt
      refine wpOp_step rfl fun K hK => ?_
      simp only [h81] at hK ⊢
      go_simp
      exact hK _ _ ⟨_, rfl, Below.refl _ _, fun d hd => by cases hd; exact rfl⟩
    · intro x u hbu hd
      have h84 : x 84 = .pointer (some ⟨w.heap.size, 3, none⟩) := hd 46 (by decide)
      have h81 : x 81 = .bool false := hd 43 (by decide)
      obtain ⟨k0, k1, k2, k3, k4, k5, k6, k7, k8⟩ := (HC.out.on hbu).cf
      have kl := (HC.out.on hbu).lt
      refine wpOp_step rfl fun K hK => ?_
      simp only [h84, h81] at hK ⊢
      go_simp
      exact hK _ _ ⟨_, rfl, Below.refl _ _, fun d hd => by cases hd; exact rfl⟩
    · intro x u hbu hd
      have h83 : x 83 = .int .i64 X.p := hd 45 (by decide)
      have h85 : x 85 = .int .i64 c.L := hd 47 (by decide)
      have h81 : x 81 = .bool false := hd 43 (by decide)
      refine wpOp_step rfl fun K hK => ?_
      simp only [h83, h85, h81] at hK ⊢
      go_simp
      exact hK _ _ ⟨_, rfl, Below.refl _ _, fun d hd => by cases hd; exact rfl⟩
    · intro x u hbu hd
      have h81 : x 81 = .bool false := hd 43 (by decide)
      have h86 : x 86 = .bool false := hd 48 (by decide)
      refine wpOp_step rfl fun K hK => ?_
      simp only [h81, h86] at hK ⊢
      go_simp
      exact hK _ _ ⟨_, rfl, Below.refl _ _, fun d hd => by cases hd; exact rfl⟩
  · intro x u hbu hall
    have h87 : x 87 = .bool false := hall 49 (by decide)
    simp only [Reg.frame, Reg.over, Nat.reduceAdd, Nat.reduceLeDiff, decide_true, decide_false, if_true, Bool.false_eq_true, if_false, Bool.and_true, Bool.and_false, h87]
    have hXu := HX6.out.on hbu
    have hYu := HY8.out.on hbu
    obtain ⟨k0, k1, k2, k3, k4, k5, k6, k7, k8⟩ := (HC.out.on hbu).cf
    have kl := (HC.out.on hbu).lt
    have hWu := HW.out.on hbu
    have hBu := below_then HBB.out hbu
    obtain ⟨b1, b2, b3, b4, b5, b6⟩ := HBD.out
    have s2 := HSC.out.s2
    have l2 := HSC.out.l2
    have a1 := HA1.out
    have hn := HN.out
    clear HX6 HY8 HC HW HBB hbu hall h87 d1 d2 d3 d4 hd hw1 hw2 n1 n2 hy0 hy1 HN
    have wp : IntKind.i64.wrap (X.p + 1) = X.p + 1 := IntWalk.i64_in _ (by omega)
    have wk : IntKind.i64.wrap (X.k + 1) = X.k + 1 := IntWalk.i64_in _ (by omega)
    have wr : IntKind.i64.wrap (X.r + 1) = X.r + 1 := IntWalk.i64_in _ (by omega)
    by_cases hp : X.p + 1 < c.L
    · rw [if_pos hp] at hn
      subst hn
      have q := tm_eql X.r X.k (X.p + 1) X.r X.k (X.p + 1)
      have x0 := hXu.cell 0
      have x1 := hXu.cell 1
      have x2 := hXu.cell 2
      have xl := hXu.lt
      simp only [List.getElem?_toArray, List.getElem?_cons_zero, List.getElem?_cons_succ] at x0 x1 x2
      have y0 := hYu.cell 0
      have y1 := hYu.cell 1
      have y2 := hYu.cell 2
      have yl := hYu.lt
      simp only [List.getElem?_toArray, List.getElem?_cons_zero, List.getElem?_cons_succ] at y0 y1 y2
      have dp : decide (X.p + 1 < c.L) = true := decide_eq_true hp
      clear hXu hYu
      go_wp2_with (go_at_call 9; (with_reducible refine (lives_clk _ hWu).mono ?_); rintro e u2 ⟨rfl, c2⟩)
      go_ret
      exact ⟨rfl, below_then hBu c2⟩
    · rw [if_neg hp] at hn
      have dp : decide (X.p + 1 < c.L) = false := decide_eq_false hp
      by_cases hk : X.k + 1 < (c.sn : Int)
      · rw [if_pos hk] at hn
        subst hn
        have q := tm_eql X.r (X.k + 1) 0 X.r (X.k + 1) 0
        have x0 := hXu.cell 0
        have x1 := hXu.cell 1
        have x2 := hXu.cell 2
        have xl := hXu.lt
        simp only [List.getElem?_toArray, List.getElem?_cons_zero, List.getElem?_cons_succ] at x0 x1 x2
        have y0 := hYu.cell 0
        have y1 := hYu.cell 1
        have y2 := hYu.cell 2
        have yl := hYu.lt
        simp only [List.getElem?_toArray, List.getElem?_cons_zero, List.getElem?_cons_succ] at y0 y1 y2
        have dk : decide (X.k + 1 < (c.sn : Int)) = true := decide_eq_true hk
        clear hXu hYu
        go_wp2_with (go_at_call 9; (with_reducible refine (lives_clk _ hWu).mono ?_); rintro e u2 ⟨rfl, c2⟩)
        go_ret
        exact ⟨rfl, below_then hBu c2⟩
      · rw [if_neg hk] at hn
        subst hn
        have q := tm_eql (X.r + 1) 0 0 (X.r + 1) 0 0
        have x0 := hXu.cell 0
        have x1 := hXu.cell 1
        have x2 := hXu.cell 2
        have xl := hXu.lt
        simp only [List.getElem?_toArray, List.getElem?_cons_zero, List.getElem?_cons_succ] at x0 x1 x2
        have y0 := hYu.cell 0
        have y1 := hYu.cell 1
        have y2 := hYu.cell 2
        have yl := hYu.lt
        simp only [List.getElem?_toArray, List.getElem?_cons_zero, List.getElem?_cons_succ] at y0 y1 y2
        have dk : decide (X.k + 1 < (c.sn : Int)) = false := decide_eq_false hk
        clear hXu hYu
        go_wp2_with (go_at_call 9; (with_reducible refine (lives_clk _ hWu).mono ?_); rintro e u2 ⟨rfl, c2⟩)
        go_ret
        exact ⟨rfl, below_then hBu c2⟩
theorem clocksBack_walk (c : Cf) (age : Int) (W : World) (hw : Ways W) (hc : CfRaw W c) :
    Calls Tryd.prog 5 #[.agg #[.int .i64 c.N, .slice c.pA c.pn c.pc, .slice c.sA c.sn c.sc, .int .i64 c.L, .slice c.bA c.bn c.bc, .slice c.tA c.tn c.tc, .int .i64 c.M, .int .i64 c.G, .int .i64 c.F], .int .i64 age] W fun e w' => e = .returned (.bool true) ∧ Below W.heap.size W w' := by
  by_cases hg : greatB c = true
  · exact clocksBack_none c age W hw (fun u _ => lawNet_great c u hg)
  · have hg' : greatB c = false := by simpa using hg
    obtain ⟨hin, -⟩ := hc.small hg'
    by_cases h0 : newE c = 0
    · exact clocksBack_yes c age W hw hin hg' h0
    · exact clocksBack_none c age W hw (fun u hb => lawNet_bad c u (hin.on hb) hg' h0)
end Go.Proofs.YtonddecdeeikgaaDoor
