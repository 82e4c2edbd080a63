/-
  The law ClocksOf, walked: of whatever age its time, of whatever time its age, and how many slots were ahead, are the reference's: true; nothing that was there has turned. Conditions: the config's reading; the table of directions is as the program's text lays it.
-/
import Derived.Test.YtonddecdeeikgaaDoorCl9
namespace Go.Proofs.YtonddecdeeikgaaDoor
open Go.RowKit Cl Rg
set_option linter.unusedVariables false

theorem clocksOf_none (c : Cf) (a : Int) (t : Tm) (w : World) (hw : Ways w) (HN : ∀ u, Below w.heap.size w u → Calls Tryd.prog 8 #[.agg #[.int .i64 c.N, .slice c.pA c.pn c.pc, .slice c.sA c.sn c.sc, .int .i64 c.L, .slice c.bA c.bn c.bc, .slice c.tA c.tn c.tc, .int .i64 c.M, .int .i64 c.G, .int .i64 c.F]] u fun e w' => e = .returned (.pointer none) ∧ Below u.heap.size u w') :
    Calls Tryd.prog 3 #[.agg #[.int .i64 c.N, .slice c.pA c.pn c.pc, .slice c.sA c.sn c.sc, .int .i64 c.L, .slice c.bA c.bn c.bc, .slice c.tA c.tn c.tc, .int .i64 c.M, .int .i64 c.G, .int .i64 c.F], .int .i64 a, .agg #[.int .i64 t.r, .int .i64 t.k, .int .i64 t.p]] w fun e w' => e = .returned (.bool true) ∧ Below w.heap.size w w' := by
  have hB0 : Below w.heap.size w ((w.alloc (.cells #[.int .i64 c.N, .slice c.pA c.pn c.pc, .slice c.sA c.sn c.sc, .int .i64 c.L, .slice c.bA c.bn c.bc, .slice c.tA c.tn c.tc, .int .i64 c.M, .int .i64 c.G, .int .i64 c.F] 25)).alloc (.cells #[.int .i64 t.r, .int .i64 t.k, .int .i64 t.p] 27)) := below_al (below_al (Below.refl w.heap.size w) (.cells #[.int .i64 c.N, .slice c.pA c.pn c.pc, .slice c.sA c.sn c.sc, .int .i64 c.L, .slice c.bA c.bn c.bc, .slice c.tA c.tn c.tc, .int .i64 c.M, .int .i64 c.G, .int .i64 c.F] 25)) (.cells #[.int .i64 t.r, .int .i64 t.k, .int .i64 t.p] 27)
  have HM := Lib.hid HN
  clear HN
  go_enter Tryd.func3, Tryd.ntmps3
  go_wp2_with (first
    | (go_at_call 8; (with_reducible refine (HM.out _ hB0).mono ?_); rintro e w1 ⟨rfl, b1⟩; have hB1 := below_then hB0 b1)
    | (go_at_call 9; (with_reducible refine (lives_clk _ (hw.on hB1)).mono ?_); rintro e w2 ⟨rfl, b2⟩))
  go_ret
  exact ⟨rfl, below_then hB1 b2⟩
set_option maxRecDepth 100000 in
set_option maxHeartbeats 4000000 in
theorem clocksOf_yes (c : Cf) (a : Int) (t : Tm) (w : World) (hw : Ways w) (hc : CfIn w c) (hg : greatB c = false) (h0 : newE c = 0) :
    Calls Tryd.prog 3 #[.agg #[.int .i64 c.N, .slice c.pA c.pn c.pc, .slice c.sA c.sn c.sc, .int .i64 c.L, .slice c.bA c.bn c.bc, .slice c.tA c.tn c.tc, .int .i64 c.M, .int .i64 c.G, .int .i64 c.F], .int .i64 a, .agg #[.int .i64 t.r, .int .i64 t.k, .int .i64 t.p]] w fun e w' => e = .returned (.bool true) ∧ Below w.heap.size w w' := by
  have hB0 : Below w.heap.size w ((w.alloc (.cells #[.int .i64 c.N, .slice c.pA c.pn c.pc, .slice c.sA c.sn c.sc, .int .i64 c.L, .slice c.bA c.bn c.bc, .slice c.tA c.tn c.tc, .int .i64 c.M, .int .i64 c.G, .int .i64 c.F] 25)).alloc (.cells #[.int .i64 t.r, .int .i64 t.k, .int .i64 t.p] 27)) := below_al (below_al (Below.refl w.heap.size w) (.cells #[.int .i64 c.N, .slice c.pA c.pn c.pc, .slice c.sA c.sn c.sc, .int .i64 c.L, .slice c.bA c.bn c.bc, .slice c.tA c.tn c.tc, .int .i64 c.M, .int .i64 c.G, .int .i64 c.F] 25)) (.cells #[.int .i64 t.r, .int .i64 t.k, .int .i64 t.p] 27)
  have hC0 := (Blk.new w 25 #[.int .i64 c.N, .slice c.pA c.pn c.pc, .slice c.sA c.sn c.sc, .int .i64 c.L, .slice c.bA c.bn c.bc, .slice c.tA c.tn c.tc, .int .i64 c.M, .int .i64 c.G, .int .i64 c.F]).alloc (.cells #[.int .i64 t.r, .int .i64 t.k, .int .i64 t.p] 27)
  have hT0 : Blk ((w.alloc (.cells #[.int .i64 c.N, .slice c.pA c.pn c.pc, .slice c.sA c.sn c.sc, .int .i64 c.L, .slice c.bA c.bn c.bc, .slice c.tA c.tn c.tc, .int .i64 c.M, .int .i64 c.G, .int .i64 c.F] 25)).alloc (.cells #[.int .i64 t.r, .int .i64 t.k, .int .i64 t.p] 27)) (w.heap.size + 1) 27 #[.int .i64 t.r, .int .i64 t.k, .int .i64 t.p] := by
    have h := Blk.new (w.alloc (.cells #[.int .i64 c.N, .slice c.pA c.pn c.pc, .slice c.sA c.sn c.sc, .int .i64 c.L, .slice c.bA c.bn c.bc, .slice c.tA c.tn c.tc, .int .i64 c.M, .int .i64 c.G, .int .i64 c.F] 25)) 27 #[.int .i64 t.r, .int .i64 t.k, .int .i64 t.p]
    rwa [alloc_size] at h
  have HW0 := Lib.hid (hw.on hB0)
  have HIN0 := Lib.hid (hc.on hB0)
  have HG := Lib.hid hg
  have H0 := Lib.hid h0
  have HSC := Lib.hid (cf_sc h0)
  have HS16 := Lib.hid (show (c.sn : Int) ≤ 16 by have := (newE_ok.1 h0).slots; omega)
  obtain ⟨X, hX⟩ : ∃ X, X = ofT c.sn c.L a := ⟨_, rfl⟩
  obtain ⟨E, hE⟩ : ∃ E, E = ofE a := ⟨_, rfl⟩
  obtain ⟨A, hA⟩ : ∃ A, A = agA c.sn c.L t := ⟨_, rfl⟩
  obtain ⟨G, hG⟩ : ∃ G, G = agE c.sn c.L t := ⟨_, rfl⟩
  obtain ⟨y, hy⟩ : ∃ y, y = ahA c.sn c.L t := ⟨_, rfl⟩
  have HX := Lib.hid hX.symm
  have HE := Lib.hid hE.symm
  have HA := Lib.hid hA.symm
  have HGG := Lib.hid hG.symm
  have HY := Lib.hid hy.symm
  have HB0 := Lib.hid hB0
  have HC0 := Lib.hid hC0
  have HT0 := Lib.hid hT0
  clear hX hE hA hG hy hB0 hC0 hT0 hw hc hg h0
  go_enter Tryd.func3, Tryd.ntmps3
  go_wp2_with (first
    | (go_at_call 8; (with_reducible refine (lawNet_yes c _ HW0.out HIN0.out HG.out H0.out).mono ?_); rintro e w1 ⟨gN, rfl, hN1, b1⟩; have hT1 := HT0.out.on b1; have t0 := hT1.cell 0; have t1 := hT1.cell 1; have t2 := hT1.cell 2; have tl := hT1.lt; simp only [List.getElem?_toArray, List.getElem?_cons_zero, List.getElem?_cons_succ] at t0 t1 t2; have b1' := below_al b1 (.cells #[.int .i64 t.r, .int .i64 t.k, .int .i64 t.p] 31); have hN1' := hN1.on (below_al (Below.refl _ w1) (.cells #[.int .i64 t.r, .int .i64 t.k, .int .i64 t.p] 31)); have hU1 := Blk.new w1 31 #[.int .i64 t.r, .int .i64 t.k, .int .i64 t.p])
    | (go_at_call 10; (with_reducible refine (nOf_is _ c.sn c.L a X HX.out E HE.out _ hN1').mono ?_); rintro e w2 ⟨rfl, b2⟩; clear t0 t1 t2 tl; have b2' := below_al b2 (.cells #[.int .i64 X.r, .int .i64 X.k, .int .i64 X.p] 27); have B2 := below_then b1' b2'; have hX2 := Blk.new w2 27 #[.int .i64 X.r, .int .i64 X.k, .int .i64 X.p]; have hC2 := HC0.out.on B2; obtain ⟨k0, k1, k2, k3, k4, k5, k6, k7, k8⟩ := hC2.cf; have kl := hC2.lt)
    | (go_at_call 11; (with_reducible refine (refOf_is c a X HX.out E HE.out _ (HIN0.out.on B2) HSC.out).mono ?_); rintro e w3 ⟨rfl, b3⟩; clear k0 k1 k2 k3 k4 k5 k6 k7 k8 kl; have b3' := below_al b3 (.cells #[.int .i64 X.r, .int .i64 X.k, .int .i64 X.p] 31); have B3 := below_then B2 b3'; have hY3 := Blk.new w3 31 #[.int .i64 X.r, .int .i64 X.k, .int .i64 X.p]; have hT3 := HT0.out.on B3; have t0 := hT3.cell 0; have t1 := hT3.cell 1; have t2 := hT3.cell 2; have tl := hT3.lt; simp only [List.getElem?_toArray, List.getElem?_cons_zero, List.getElem?_cons_succ] at t0 t1 t2; have hN3 := hN1'.on (below_then b2' b3'))
    | (go_at_call 12; (with_reducible refine (nAge_is _ c.sn c.L t A HA.out G HGG.out _ hN3).mono ?_); rintro e w4 ⟨rfl, b4⟩; clear t0 t1 t2 tl; have B4 := below_then B3 b4; have hC4 := HC0.out.on B4; obtain ⟨k0, k1, k2, k3, k4, k5, k6, k7, k8⟩ := hC4.cf; have kl := hC4.lt; have hU4 := hU1.on (below_then (below_then b2' b3') b4); have u0 := hU4.cell 0; have u1 := hU4.cell 1; have u2 := hU4.cell 2; have ul := hU4.lt; simp only [List.getElem?_toArray, List.getElem?_cons_zero, List.getElem?_cons_succ] at u0 u1 u2)
    | (go_at_call 13; (with_reducible refine (refAge_is c t A HA.out G HGG.out _ (HIN0.out.on B4) HSC.out HS16.out).mono ?_); rintro e w5 ⟨rfl, b5⟩; clear k0 k1 k2 k3 k4 k5 k6 k7 k8 kl u0 u1 u2 ul; have B5 := below_then B4 b5))
  have HC := Lib.hid (HC0.out.on B5)
  have HT5 := Lib.hid (HT0.out.on B5)
  have HU8 := Lib.hid (hU4.on b5)
  have HX9 := Lib.hid (hX2.on (below_then (below_then b3' b4) b5))
  have HX11 := Lib.hid (hY3.on (below_then b4 b5))
  have HNS := Lib.hid (hN3.on (below_then b4 b5))
  have HIN := Lib.hid (HIN0.out.on B5)
  have HW := Lib.hid (HW0.out.on B5)
  have HBB := Lib.hid (below_then HB0.out B5)
  clear b1 b1' b2 b2' b3 b3' b4 b5 B2 B3 B4 B5 hT1 hN1 hN1' hU1 hX2 hC2 hY3 hT3 hN3 hC4 hU4 HW0 HIN0 HC0 HT0 HB0
  refine Reg.wp_slots (fun t => t == 6 || decide (53 ≤ t)) (by kernel_rfl) (by kernel_rfl) (by kernel_rfl) (fun zz => (Reg.tbl [
    (53, .is (.int .i64 E)),
    (54, .is (.int .i64 E)),
    (55, .is (.bool true)),
    (56, .is (.bool true)),
    (57, .is (.agg #[.int .i64 X.r, .int .i64 X.k, .int .i64 X.p])),
    (58, .is (.agg #[.int .i64 X.r, .int .i64 X.k, .int .i64 X.p])),
    (59, .is (.bool true)),
    (60, .is (.bool true)),
    (61, .is (.bool true)),
    (62, .is (.int .i64 A)),
    (63, .is (.int .i64 A)),
    (64, .is (.bool true)),
    (65, .is (.bool true)),
    (66, .is (.bool true)),
    (67, .is (.int .i64 G)),
    (68, .is (.int .i64 G)),
    (69, .is (.bool true)),
    (70, .is (.bool true)),
    (71, .is (.bool true)),
    (72, .is (.pointer (some ⟨gN, 0, none⟩))),
    (73, .is (.agg #[.int .i64 t.r, .int .i64 t.k, .int .i64 t.p])),
    (74, .is (.int .i64 y)),
    (75, .is (.agg #[.int .i64 c.N, .slice c.pA c.pn c.pc, .slice c.sA c.sn c.sc, .int .i64 c.L, .slice c.bA c.bn c.bc, .slice c.tA c.tn c.tc, .int .i64 c.M, .int .i64 c.G, .int .i64 c.F])),
    (76, .is (.agg #[.int .i64 t.r, .int .i64 t.k, .int .i64 t.p])),
    (77, .is (.int .i64 y)),
    (78, .is (.bool true)),
    (79, .is (.bool true)),
    (80, .is (.bool true)),
    (81, .is (.bool true)),
    (82, .is (.bool true)),
    (6, .is (.bool true))] zz).P) (fun zz => (Reg.tbl _ zz).on) ?_ ?_
  · simp only [Reg.frame, Reg.over, Nat.reduceAdd, Nat.reduceBEq, Nat.reduceLeDiff, decide_true, decide_false, Bool.or_true, Bool.or_false, if_true, Bool.false_eq_true, if_false]
    refine ⟨?_, ?_, ?_, ?_, ?_, ?_, ?_, ?_, ?_, ?_, ?_, ?_, ?_, ?_, ?_, ?_, ?_, ?_, ?_, ?_, ?_, ?_, ?_, ?_, ?_, ?_, ?_, ?_, ?_, ?_, ?_, trivial⟩
    · intro x u hbu hd
      refine wpOp_step rfl fun K hK => ?_
      go_simp
      exact hK _ _ ⟨_, rfl, Below.refl _ _, fun d hd => by cases hd; exact rfl⟩
    · intro x u hbu hd
      refine wpOp_step rfl fun K hK => ?_
      go_simp
      exact hK _ _ ⟨_, rfl, Below.refl _ _, fun d hd => by cases hd; exact rfl⟩
    · intro x u hbu hd
      have h53 : x 53 = .int .i64 E := hd 0 (by decide)
      have h54 : x 54 = .int .i64 E := hd 1 (by decide)
      refine wpOp_step rfl fun K hK => ?_
      simp only [h53, h54] at hK ⊢
      go_simp
      first
        | exact hK _ _ ⟨_, rfl, Below.refl _ _, fun d hd => by cases hd; exact rfl⟩
        | exact hK _ _ ⟨_, rfl, Below.refl _ _, fun d hd => by cases hd; exact congrArg Value.bool (beq_self_eq_true _)⟩
    · intro x u hbu hd
      have h55 : x 55 = .bool true := hd 2 (by decide)
      refine wpOp_step rfl fun K hK => ?_
      simp only [h55] at hK ⊢
      go_simp
      exact hK _ _ ⟨_, rfl, Below.refl _ _, fun d hd => by cases hd; exact rfl⟩
    · intro x u hbu hd
      have h56 : x 56 = .bool true := hd 3 (by decide)
      have x0 := (HX9.out.on hbu).cell 0
      have x1 := (HX9.out.on hbu).cell 1
      have x2 := (HX9.out.on hbu).cell 2
      have xl := (HX9.out.on hbu).lt
      simp only [List.getElem?_toArray, List.getElem?_cons_zero, List.getElem?_cons_succ] at x0 x1 x2
      refine wpOp_step rfl fun K hK => ?_
      simp only [h56] at hK ⊢
      go_simp
      exact hK _ _ ⟨_, rfl, Below.refl _ _, fun d hd => by cases hd; exact rfl⟩
    · intro x u hbu hd
      have h56 : x 56 = .bool true := hd 3 (by decide)
      have x0 := (HX11.out.on hbu).cell 0
      have x1 := (HX11.out.on hbu).cell 1
      have x2 := (HX11.out.on hbu).cell 2
      have xl := (HX11.out.on hbu).lt
      simp only [List.getElem?_toArray, List.getElem?_cons_zero, List.getElem?_cons_succ] at x0 x1 x2
      refine wpOp_step rfl fun K hK => ?_
      simp only [h56] at hK ⊢
      go_simp
      exact hK _ _ ⟨_, rfl, Below.refl _ _, fun d hd => by cases hd; exact rfl⟩
    · intro x u hbu hd
      have h57 : x 57 = .agg #[.int .i64 X.r, .int .i64 X.k, .int .i64 X.p] := hd 4 (by decide)
      have h58 : x 58 = .agg #[.int .i64 X.r, .int .i64 X.k, .int .i64 X.p] := hd 5 (by decide)
      have h56 : x 56 = .bool true := hd 3 (by decide)
      refine wpOp_step rfl fun K hK => ?_
      simp only [h57, h58, h56] at hK ⊢
      go_simp
      with_reducible refine (sameTm_any X _).mono ?_
      rintro e u' ⟨rfl, hb'⟩
      exact hK _ _ ⟨_, rfl, hb', fun d hd => by cases hd; exact rfl⟩
    · intro x u hbu hd
      have h56 : x 56 = .bool true := hd 3 (by decide)
      have h59 : x 59 = .bool true := hd 6 (by decide)
      refine wpOp_step rfl fun K hK => ?_
      simp only [h56, h59] at hK ⊢
      go_simp
      exact hK _ _ ⟨_, rfl, Below.refl _ _, fun d hd => by cases hd; exact rfl⟩
    · intro x u hbu hd
      have h60 : x 60 = .bool true := hd 7 (by decide)
      refine wpOp_step rfl fun K hK => ?_
      simp only [h60] at hK ⊢
      go_simp
      exact hK _ _ ⟨_, rfl, Below.refl _ _, fun d hd => by cases hd; exact rfl⟩
    · intro x u hbu hd
      have h61 : x 61 = .bool true := hd 8 (by decide)
      refine wpOp_step rfl fun K hK => ?_
      simp only [h61] at hK ⊢
      go_simp
      exact hK _ _ ⟨_, rfl, Below.refl _ _, fun d hd => by cases hd; exact rfl⟩
    · intro x u hbu hd
      have h61 : x 61 = .bool true := hd 8 (by decide)
      refine wpOp_step rfl fun K hK => ?_
      simp only [h61] at hK ⊢
      go_simp
      exact hK _ _ ⟨_, rfl, Below.refl _ _, fun d hd => by cases hd; exact rfl⟩
    · intro x u hbu hd
      have h62 : x 62 = .int .i64 A := hd 9 (by decide)
      have h63 : x 63 = .int .i64 A := hd 10 (by decide)
      have h61 : x 61 = .bool true := hd 8 (by decide)
      refine wpOp_step rfl fun K hK => ?_
      simp only [h62, h63, h61] at hK ⊢
      go_simp
      first
        | exact hK _ _ ⟨_, rfl, Below.refl _ _, fun d hd => by cases hd; exact rfl⟩
        | exact hK _ _ ⟨_, rfl, Below.refl _ _, fun d hd => by cases hd; exact congrArg Value.bool (beq_self_eq_true _)⟩
    · intro x u hbu hd
      have h61 : x 61 = .bool true := hd 8 (by decide)
      have h64 : x 64 = .bool true := hd 11 (by decide)
      refine wpOp_step rfl fun K hK => ?_
      simp only [h61, h64] at hK ⊢
      go_simp
      exact hK _ _ ⟨_, rfl, Below.refl _ _, fun d hd => by cases hd; exact rfl⟩
    · intro x u hbu hd
      have h65 : x 65 = .bool true := hd 12 (by decide)
      refine wpOp_step rfl fun K hK => ?_
      simp only [h65] at hK ⊢
      go_simp
      exact hK _ _ ⟨_, rfl, Below.refl _ _, fun d hd => by cases hd; exact rfl⟩
    · intro x u hbu hd
      have h66 : x 66 = .bool true := hd 13 (by decide)
      refine wpOp_step rfl fun K hK => ?_
      simp only [h66] at hK ⊢
      go_simp
      exact hK _ _ ⟨_, rfl, Below.refl _ _, fun d hd => by cases hd; exact rfl⟩
    · intro x u hbu hd
      have h66 : x 66 = .bool true := hd 13 (by decide)
      refine wpOp_step rfl fun K hK => ?_
      simp only [h66] at hK ⊢
      go_simp
      exact hK _ _ ⟨_, rfl, Below.refl _ _, fun d hd => by cases hd; exact rfl⟩
    · intro x u hbu hd
      have h67 : x 67 = .int .i64 G := hd 14 (by decide)
      have h68 : x 68 = .int .i64 G := hd 15 (by decide)
      have h66 : x 66 = .bool true := hd 13 (by decide)
      refine wpOp_step rfl fun K hK => ?_
      simp only [h67, h68, h66] at hK ⊢
      go_simp
      first
        | exact hK _ _ ⟨_, rfl, Below.refl _ _, fun d hd => by cases hd; exact rfl⟩
        | exact hK _ _ ⟨_, rfl, Below.refl _ _, fun d hd => by cases hd; exact congrArg Value.bool (beq_self_eq_true _)⟩
    · intro x u hbu hd
      have h66 : x 66 = .bool true := hd 13 (by decide)
      have h69 : x 69 = .bool true := hd 16 (by decide)
      refine wpOp_step rfl fun K hK => ?_
      simp only [h66, h69] at hK ⊢
      go_simp
      exact hK _ _ ⟨_, rfl, Below.refl _ _, fun d hd => by cases hd; exact rfl⟩
    · intro x u hbu hd
      have h70 : x 70 = .bool true := hd 17 (by decide)
      refine wpOp_step rfl fun K hK => ?_
      simp only [h70] at hK ⊢
      go_simp
      exact hK _ _ ⟨_, rfl, Below.refl _ _, fun d hd => by cases hd; exact rfl⟩
    · intro x u hbu hd
      have h71 : x 71 = .bool true := hd 18 (by decide)
      refine wpOp_step rfl fun K hK => ?_
      simp only [h71] at hK ⊢
      go_simp
      exact hK _ _ ⟨_, rfl, Below.refl _ _, fun d hd => by cases hd; exact rfl⟩
    · intro x u hbu hd
      have h71 : x 71 = .bool true := hd 18 (by decide)
      have x0 := (HT5.out.on hbu).cell 0
      have x1 := (HT5.out.on hbu).cell 1
      have x2 := (HT5.out.on hbu).cell 2
      have xl := (HT5.out.on hbu).lt
      simp only [List.getElem?_toArray, List.getElem?_cons_zero, List.getElem?_cons_succ] at x0 x1 x2
      refine wpOp_step rfl fun K hK => ?_
      simp only [h71] at hK ⊢
      go_simp
      exact hK _ _ ⟨_, rfl, Below.refl _ _, fun d hd => by cases hd; exact rfl⟩
    · intro x u hbu hd
      have h72 : x 72 = .pointer (some ⟨gN, 0, none⟩) := hd 19 (by decide)
      have h73 : x 73 = .agg #[.int .i64 t.r, .int .i64 t.k, .int .i64 t.p] := hd 20 (by decide)
      have h71 : x 71 = .bool true := hd 18 (by decide)
      refine wpOp_step rfl fun K hK => ?_
      simp only [h72, h73, h71] at hK ⊢
      go_simp
      with_reducible refine (nAhead_is _ c.sn c.L t y HY.out _ (HNS.out.on hbu)).mono ?_
      rintro e u' ⟨rfl, hb'⟩
      exact hK _ _ ⟨_, rfl, hb', fun d hd => by cases hd; exact rfl⟩
    · intro x u hbu hd
      have h71 : x 71 = .bool true := hd 18 (by decide)
      obtain ⟨k0, k1, k2, k3, k4, k5, k6, k7, k8⟩ := (HC.out.on hbu).cf
      have kl := (HC.out.on hbu).lt
      refine wpOp_step rfl fun K hK => ?_
      simp only [h71] at hK ⊢
      go_simp
      exact hK _ _ ⟨_, rfl, Below.refl _ _, fun d hd => by cases hd; exact rfl⟩
    · intro x u hbu hd
      have h71 : x 71 = .bool true := hd 18 (by decide)
      have x0 := (HU8.out.on hbu).cell 0
      have x1 := (HU8.out.on hbu).cell 1
      have x2 := (HU8.out.on hbu).cell 2
      have xl := (HU8.out.on hbu).lt
      simp only [List.getElem?_toArray, List.getElem?_cons_zero, List.getElem?_cons_succ] at x0 x1 x2
      refine wpOp_step rfl fun K hK => ?_
      simp only [h71] at hK ⊢
      go_simp
      exact hK _ _ ⟨_, rfl, Below.refl _ _, fun d hd => by cases hd; exact rfl⟩
    · intro x u hbu hd
      have h75 : x 75 = .agg #[.int .i64 c.N, .slice c.pA c.pn c.pc, .slice c.sA c.sn c.sc, .int .i64 c.L, .slice c.bA c.bn c.bc, .slice c.tA c.tn c.tc, .int .i64 c.M, .int .i64 c.G, .int .i64 c.F] := hd 22 (by decide)
      have h76 : x 76 = .agg #[.int .i64 t.r, .int .i64 t.k, .int .i64 t.p] := hd 23 (by decide)
      have h71 : x 71 = .bool true := hd 18 (by decide)
      refine wpOp_step rfl fun K hK => ?_
      simp only [h75, h76, h71] at hK ⊢
      go_simp
      with_reducible refine (refAhead_is c t y HY.out _ (HIN.out.on hbu) HSC.out HS16.out).mono ?_
      rintro e u' ⟨rfl, hb'⟩
      exact hK _ _ ⟨_, rfl, hb', fun d hd => by cases hd; exact rfl⟩
    · intro x u hbu hd
      have h74 : x 74 = .int .i64 y := hd 21 (by decide)
      have h77 : x 77 = .int .i64 y := hd 24 (by decide)
      have h71 : x 71 = .bool true := hd 18 (by decide)
      refine wpOp_step rfl fun K hK => ?_
      simp only [h74, h77, h71] at hK ⊢
      go_simp
      first
        | exact hK _ _ ⟨_, rfl, Below.refl _ _, fun d hd => by cases hd; exact rfl⟩
        | exact hK _ _ ⟨_, rfl, Below.refl _ _, fun d hd => by cases hd; exact congrArg Value.bool (beq_self_eq_true _)⟩
    · intro x u hbu hd
      have h71 : x 71 = .bool true := hd 18 (by decide)
      have h78 : x 78 = .bool true := hd 25 (by decide)
      refine wpOp_step rfl fun K hK => ?_
      simp only [h71, h78] at hK ⊢
      go_simp
      exact hK _ _ ⟨_, rfl, Below.refl _ _, fun d hd => by cases hd; exact rfl⟩
    · intro x u hbu hd
      have h79 : x 79 = .bool true := hd 26 (by decide)
      refine wpOp_step rfl fun K hK => ?_
      simp only [h79] at hK ⊢
      go_simp
      exact hK _ _ ⟨_, rfl, Below.refl _ _, fun d hd => by cases hd; exact rfl⟩
    · intro x u hbu hd
      have h80 : x 80 = .bool true := hd 27 (by decide)
      refine wpOp_step rfl fun K hK => ?_
      simp only [h80] at hK ⊢
      go_simp
      with_reducible refine (lives_clk _ (HW.out.on hbu)).mono ?_
      rintro e u' ⟨rfl, hb'⟩
      exact hK _ _ ⟨_, rfl, hb', fun d hd => by cases hd; exact rfl⟩
    · intro x u hbu hd
      have h80 : x 80 = .bool true := hd 27 (by decide)
      have h81 : x 81 = .bool true := hd 28 (by decide)
      refine wpOp_step rfl fun K hK => ?_
      simp only [h80, h81] at hK ⊢
      go_simp
      exact hK _ _ ⟨_, rfl, Below.refl _ _, fun d hd => by cases hd; exact rfl⟩
    · intro x u hbu hd
      have h82 : x 82 = .bool true := hd 29 (by decide)
      refine wpOp_step rfl fun K hK => ?_
      simp only [h82] at hK ⊢
      go_simp
      exact hK _ _ ⟨_, rfl, Below.refl _ _, fun d hd => by cases hd; exact rfl⟩
  · intro x u hbu hall
    have h6 : x 6 = .bool true := hall 30 (by decide)
    simp only [Reg.frame, Reg.over, Nat.reduceAdd, Nat.reduceBEq, Nat.reduceLeDiff, decide_true, decide_false, Bool.or_true, Bool.or_false, if_true, Bool.false_eq_true, if_false, h6]
    go_wp2_with fail
    go_ret
    exact ⟨rfl, below_then HBB.out hbu⟩
theorem clocksOf_walk (c : Cf) (a : Int) (t : Tm) (W : World) (hw : Ways W) (hc : CfRaw W c) :
    Calls Tryd.prog 3 #[.agg #[.int .i64 c.N, .slice c.pA c.pn c.pc, .slice c.sA c.sn c.sc, .int .i64 c.L, .slice c.bA c.bn c.bc, .slice c.tA c.tn c.tc, .int .i64 c.M, .int .i64 c.G, .int .i64 c.F], .int .i64 a, .agg #[.int .i64 t.r, .int .i64 t.k, .int .i64 t.p]] W fun e w' => e = .returned (.bool true) ∧ Below W.heap.size W w' := by
  by_cases hg : greatB c = true
  · exact clocksOf_none c a t W hw (fun u _ => lawNet_great c u hg)
  · have hg' : greatB c = false := by simpa using hg
    obtain ⟨hin, -⟩ := hc.small hg'
    by_cases h0 : newE c = 0
    · exact clocksOf_yes c a t W hw hin hg' h0
    · exact clocksOf_none c a t W hw (fun u hb => lawNet_bad c u (hin.on hb) hg' h0)
end Go.Proofs.YtonddecdeeikgaaDoor
