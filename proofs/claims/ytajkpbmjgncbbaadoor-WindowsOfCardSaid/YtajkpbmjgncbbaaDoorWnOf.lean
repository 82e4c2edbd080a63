/-
  The law WindowsOf, walked: of whatever direction, owner and node the window, which tick of it a place is, what passes, the guards, and when all is over, are the reference's: true; nothing that was there has turned. Conditions: the config's reading; both tables are as the program's text lays them.
-/
import Derived.Test.YtajkpbmjgncbbaaDoorWnR2
import Derived.Deep.Cut
import Derived.Deep.CutRange
namespace Go.Proofs.YtajkpbmjgncbbaaDoor
open Go.RowKit Rg
set_option linter.unusedVariables false

theorem wn_role (N : Int) (P : List Int) (d o x : Int) : 0 ≤ (ofW N P d o x).r ∧ (ofW N P d o x).r ≤ 255 := by
  unfold ofW
  split
  · exact ⟨by decide, by decide⟩
  · have := role_bd (plM N P d o x)
    simp only [wnM]
    omega
theorem Blk.wr {w : World} {g : Nat} {X : Wn} (h : Blk w g 38 #[.int .i64 X.r, .int .i64 X.p, .int .i64 X.b, .int .i64 X.e]) : w.cell? ⟨g, 0, none⟩ = some (.int .i64 X.r) ∧ w.cell? ⟨g, 1, none⟩ = some (.int .i64 X.p) ∧ w.cell? ⟨g, 2, none⟩ = some (.int .i64 X.b) ∧ w.cell? ⟨g, 3, none⟩ = some (.int .i64 X.e) ∧ g < w.heap.size :=
  ⟨(h.cell 0).trans rfl, (h.cell 1).trans rfl, (h.cell 2).trans rfl, (h.cell 3).trans rfl, h.lt⟩

theorem windowsOf_none (c : Cf) (x0 x1 x2 x3 s : Int) (w : World) (hw : Laid2 w) (HN : ∀ u, Below w.heap.size w u → Calls Tryd.prog 8 #[.agg #[.int .i64 c.N, .slice c.pA c.pn c.pc, .slice c.sA c.sn c.sc, .int .i64 c.L, .slice c.bA c.bn c.bc, .slice c.tA c.tn c.tc, .int .i64 c.M, .int .i64 c.G, .int .i64 c.F]] u fun e w' => e = .returned (.pointer none) ∧ Below u.heap.size u w') :
    Calls Tryd.prog 3 #[.agg #[.int .i64 c.N, .slice c.pA c.pn c.pc, .slice c.sA c.sn c.sc, .int .i64 c.L, .slice c.bA c.bn c.bc, .slice c.tA c.tn c.tc, .int .i64 c.M, .int .i64 c.G, .int .i64 c.F], .agg #[.int .i64 x0, .int .i64 x1, .int .i64 x2, .int .i64 x3], .int .u8 s] w fun e w' => e = .returned (.bool true) ∧ Below w.heap.size w w' := by
  have hB0 : Below w.heap.size w ((w.alloc (.cells #[.int .i64 c.N, .slice c.pA c.pn c.pc, .slice c.sA c.sn c.sc, .int .i64 c.L, .slice c.bA c.bn c.bc, .slice c.tA c.tn c.tc, .int .i64 c.M, .int .i64 c.G, .int .i64 c.F] 25)).alloc (.cells #[.int .i64 x0, .int .i64 x1, .int .i64 x2, .int .i64 x3] 26)) := below_al (below_al (Below.refl w.heap.size w) (.cells #[.int .i64 c.N, .slice c.pA c.pn c.pc, .slice c.sA c.sn c.sc, .int .i64 c.L, .slice c.bA c.bn c.bc, .slice c.tA c.tn c.tc, .int .i64 c.M, .int .i64 c.G, .int .i64 c.F] 25)) (.cells #[.int .i64 x0, .int .i64 x1, .int .i64 x2, .int .i64 x3] 26)
  have HM := Lib.hid HN
  clear HN
  go_enter Tryd.func3, Tryd.ntmps3
  go_wp2_with (first
    | (go_at_call 8; (with_reducible refine (HM.out _ hB0).mono ?_); rintro e w1 ⟨rfl, b1⟩; have hB1 := below_then hB0 b1)
    | (go_at_call 9; (with_reducible refine (lives_wn _ (hw.on hB1)).mono ?_); rintro e w2 ⟨rfl, b2⟩))
  go_ret
  exact ⟨rfl, below_then hB1 b2⟩
set_option maxRecDepth 100000 in
set_option maxHeartbeats 4000000 in
theorem windowsOf_true (c : Cf) (x0 x1 x2 x3 s : Int) (d : Int) (hdd : IntKind.u8.wrap x0 = d) (hd0 : 0 ≤ d) (hd1 : d ≤ 255) (X : Wn) (hX : ofW c.N c.P d x1 x2 = X) (hb : opB X x3 = true) (w : World) (hw : Laid2 w) (hc : CfIn w c) (hg : greatB c = false) (h0 : newE c = 0) :
    Calls Tryd.prog 3 #[.agg #[.int .i64 c.N, .slice c.pA c.pn c.pc, .slice c.sA c.sn c.sc, .int .i64 c.L, .slice c.bA c.bn c.bc, .slice c.tA c.tn c.tc, .int .i64 c.M, .int .i64 c.G, .int .i64 c.F], .agg #[.int .i64 x0, .int .i64 x1, .int .i64 x2, .int .i64 x3], .int .u8 s] w fun e w' => e = .returned (.bool true) ∧ Below w.heap.size w w' := by
  have hB0 : Below w.heap.size w ((w.alloc (.cells #[.int .i64 c.N, .slice c.pA c.pn c.pc, .slice c.sA c.sn c.sc, .int .i64 c.L, .slice c.bA c.bn c.bc, .slice c.tA c.tn c.tc, .int .i64 c.M, .int .i64 c.G, .int .i64 c.F] 25)).alloc (.cells #[.int .i64 x0, .int .i64 x1, .int .i64 x2, .int .i64 x3] 26)) := below_al (below_al (Below.refl w.heap.size w) (.cells #[.int .i64 c.N, .slice c.pA c.pn c.pc, .slice c.sA c.sn c.sc, .int .i64 c.L, .slice c.bA c.bn c.bc, .slice c.tA c.tn c.tc, .int .i64 c.M, .int .i64 c.G, .int .i64 c.F] 25)) (.cells #[.int .i64 x0, .int .i64 x1, .int .i64 x2, .int .i64 x3] 26)
  have HC0 := Lib.hid ((Blk.new w 25 #[.int .i64 c.N, .slice c.pA c.pn c.pc, .slice c.sA c.sn c.sc, .int .i64 c.L, .slice c.bA c.bn c.bc, .slice c.tA c.tn c.tc, .int .i64 c.M, .int .i64 c.G, .int .i64 c.F]).alloc (.cells #[.int .i64 x0, .int .i64 x1, .int .i64 x2, .int .i64 x3] 26))
  have HT0 : Hid (Blk ((w.alloc (.cells #[.int .i64 c.N, .slice c.pA c.pn c.pc, .slice c.sA c.sn c.sc, .int .i64 c.L, .slice c.bA c.bn c.bc, .slice c.tA c.tn c.tc, .int .i64 c.M, .int .i64 c.G, .int .i64 c.F] 25)).alloc (.cells #[.int .i64 x0, .int .i64 x1, .int .i64 x2, .int .i64 x3] 26)) (w.heap.size + 1) 26 #[.int .i64 x0, .int .i64 x1, .int .i64 x2, .int .i64 x3]) := Lib.hid (by
    have h := Blk.new (w.alloc (.cells #[.int .i64 c.N, .slice c.pA c.pn c.pc, .slice c.sA c.sn c.sc, .int .i64 c.L, .slice c.bA c.bn c.bc, .slice c.tA c.tn c.tc, .int .i64 c.M, .int .i64 c.G, .int .i64 c.F] 25)) 26 #[.int .i64 x0, .int .i64 x1, .int .i64 x2, .int .i64 x3]
    rwa [alloc_size] at h)
  have HW0 := Lib.hid (hw.on hB0)
  have HIN0 := Lib.hid (hc.on hB0)
  have HB0 := Lib.hid hB0
  have HG := Lib.hid hg
  have H0 := Lib.hid h0
  have HX := Lib.hid hX
  have HFT := Lib.hid (show WnFit X by rw [← hX]; exact fit_of _ _ _ _ _)
  have HR := Lib.hid (show 0 ≤ X.r ∧ X.r ≤ 255 by rw [← hX]; exact wn_role _ _ _ _ _)
  obtain ⟨E, hE⟩ : ∃ E, ofWE c.N c.P d x1 x2 = E := ⟨_, rfl⟩
  obtain ⟨i, hi⟩ : ∃ i, opI X x3 = i := ⟨_, rfl⟩
  obtain ⟨ga, hga⟩ : ∃ g, guM c.N 0 (atM c.P x1) = g := ⟨_, rfl⟩
  obtain ⟨gb, hgb⟩ : ∃ g, guM c.N 1 (atM c.P x1) = g := ⟨_, rfl⟩
  obtain ⟨ov, hov⟩ : ∃ g, ovM c.N = g := ⟨_, rfl⟩
  have HE := Lib.hid hE
  have HI := Lib.hid hi
  have HB := Lib.hid hb
  have HPS := Lib.hid (show passM X x3 s = s by rw [passM, hb]; rfl)
  have HGA := Lib.hid hga
  have HGB := Lib.hid hgb
  have HOV := Lib.hid hov
  clear hE hi hga hgb hov hb hX hw hc hg h0 hB0
  go_enter Tryd.func3, Tryd.ntmps3
  go_upto_region 16 with (first
    | (go_at_call 8; (with_reducible refine (netWn c _ HW0.out HIN0.out HG.out H0.out).mono ?_); rintro e w1 ⟨gN, rfl, hN1, b1⟩; have hB1 := below_then HB0.out b1; have hW1 := HW0.out.on b1; have hC1 := HC0.out.on b1; have hT1 := HT0.out.on b1; have t0 := hT1.cell 0; have t1 := hT1.cell 1; have t2 := hT1.cell 2; have tl := hT1.lt; simp only [List.getElem?_toArray, List.getElem?_cons_zero, List.getElem?_cons_succ] at t0 t1 t2)
    | (go_at_call 10; (with_reducible refine (winOf_is _ c.N c.P d x1 x2 X HX.out E HE.out w1 hN1 hW1 hd0 hd1).mono ?_); rintro e w2 ⟨rfl, b2⟩; clear t0 t1 t2 tl; have b2' := below_al b2 (.cells #[.int .u8 X.r, .int .i64 X.p, .int .i64 X.b, .int .i64 X.e] 33); have hX2 := Blk.new w2 33 #[.int .u8 X.r, .int .i64 X.p, .int .i64 X.b, .int .i64 X.e]; have hT2 := hT1.on b2'; have hC2 := hC1.on b2'; have t1 := hT2.cell 1; have t2 := hT2.cell 2; have tl := hT2.lt; simp only [List.getElem?_toArray, List.getElem?_cons_zero, List.getElem?_cons_succ] at t1 t2; obtain ⟨k0, k1, k2, k3, k4, k5, k6, k7, k8⟩ := hC2.cf; have kl := hC2.lt)
    | (go_at_call 11; (with_reducible refine (refOfW_is c d x1 x2 X HX.out E HE.out _ ((HIN0.out.on b1).on b2') H0.out hd0 hd1).mono ?_); rintro e w3 ⟨rfl, b3⟩; clear t1 t2 tl; clear k0 k1 k2 k3 k4 k5 k6 k7 k8 kl; have b3' := below_al b3 (.cells #[.int .i64 X.r, .int .i64 X.p, .int .i64 X.b, .int .i64 X.e] 38); have hY3 := Blk.new w3 38 #[.int .i64 X.r, .int .i64 X.p, .int .i64 X.b, .int .i64 X.e]; have hX3 := hX2.on b3'; obtain ⟨y0, y1, y2, y3, yl⟩ := hX3.wn; obtain ⟨z0, z1, z2, z3, zl⟩ := hY3.wr)
    | (go_at_call 12; (with_reducible refine (same_is X _ HR.out.1 HR.out.2).mono ?_); rintro e w4 ⟨rfl, b4⟩; clear y0 y1 y2 y3 yl z0 z1 z2 z3 zl; have b24 := below_then (below_then b2' b3') b4; have hX4 := hX3.on b4; have hY4 := hY3.on b4; have hT4 := hT1.on b24; have t3 := hT4.cell 3; have tl := hT4.lt; simp only [List.getElem?_toArray, List.getElem?_cons_zero, List.getElem?_cons_succ] at t3; obtain ⟨y0, y1, y2, y3, yl⟩ := hX4.wn)
    | (go_at_call 13; (with_reducible refine (winAt_is X x3 i HI.out true HB.out _ HFT.out).mono ?_); rintro e w5 ⟨rfl, b5⟩; clear y0 y1 y2 y3 yl t3 tl; have hY5 := hY4.on b5; have hT5 := hT4.on b5; have t3 := hT5.cell 3; have tl := hT5.lt; simp only [List.getElem?_toArray, List.getElem?_cons_zero, List.getElem?_cons_succ] at t3; obtain ⟨z0, z1, z2, z3, zl⟩ := hY5.wr)
    | (go_at_call 14; (with_reducible refine (refAt_is X x3 i HI.out true HB.out _ HFT.out).mono ?_); rintro e w6 ⟨rfl, b6⟩; clear z0 z1 z2 z3 zl t3 tl; have b46 := below_then (below_then b24 b5) b6; have hT6 := hT1.on b46; have hN6 := hN1.on b46; have hW6 := hW1.on b46; have t1 := hT6.cell 1; have tl := hT6.lt; simp only [List.getElem?_toArray, List.getElem?_cons_zero, List.getElem?_cons_succ] at t1)
    | (go_at_call 15; (with_reducible refine (guards_is _ c.N c.P x1 ga gb HGA.out HGB.out _ hN6 hW6).mono ?_); rintro e w7 ⟨rfl, b7⟩; clear t1 tl; have b67 := below_then b46 b7; have hT7 := hT1.on b67; have hC7 := hC1.on b67; have t1 := hT7.cell 1; have tl := hT7.lt; simp only [List.getElem?_toArray, List.getElem?_cons_zero, List.getElem?_cons_succ] at t1; obtain ⟨k0, k1, k2, k3, k4, k5, k6, k7, k8⟩ := hC7.cf; have kl := hC7.lt)
    | (go_at_call 16; (with_reducible refine (refGuards_is c x1 ga gb HGA.out HGB.out _ ((HIN0.out.on b1).on b67) H0.out).mono ?_); rintro e w8 ⟨rfl, b8⟩; clear t1 tl; clear k0 k1 k2 k3 k4 k5 k6 k7 k8 kl; have b78 := below_then b67 b8))
  have HWW := Lib.hid (((hX4.on b5).on b6 |>.on b7).on b8)
  have HTT := Lib.hid (hT1.on b78)
  have HBB := Lib.hid (hC1.on b78)
  have HNN := Lib.hid (hN1.on b78)
  have HLL := Lib.hid (hW1.on b78)
  have HCC := Lib.hid ((HIN0.out.on b1).on b78)
  have HBZ := Lib.hid (below_then hB1 b78)
  obtain ⟨gT, hgT⟩ : ∃ gT, gT = w.heap.size + 1 := ⟨_, rfl⟩
  rw [← hgT] at HTT ⊢
  clear hgT hX2 hX3 hX4 hY3 hY4 hY5 hT1 hT2 hT4 hT5 hT6 hT7 hC1 hC2 hC7 hN1 hN6 hW1 hW6 b1 b2 b2' b3 b3' b4 b5 b6 b7 b8 b24 b46 b67 b78 hB1
  refine Reg.wp_slots (fun t => t == 6 || (decide (89 ≤ t) && decide (t ≤ 125))) (by kernel_rfl) (by kernel_rfl) (by kernel_rfl) (fun zz => (Reg.tbl [
    (89, .is (.int .i64 i)),
    (90, .is (.int .i64 i)),
    (91, .is (.bool true)),
    (92, .is (.bool true)),
    (93, .is (.bool true)),
    (94, .is (.bool true)),
    (95, .is (.bool true)),
    (96, .is (.bool true)),
    (97, .is (.bool true)),
    (98, .is (.agg #[.int .u8 X.r, .int .i64 X.p, .int .i64 X.b, .int .i64 X.e])),
    (99, .is (.pointer (some ⟨gT, 3, none⟩))),
    (100, .is (.int .i64 x3)),
    (101, .is (.int .u8 s)),
    (102, .is (.int .u8 s)),
    (103, .is (.int .u8 s)),
    (104, .is (.bool true)),
    (105, .is (.bool true)),
    (106, .is (.bool true)),
    (107, .is (.int .i64 ga)),
    (108, .is (.int .i64 ga)),
    (109, .is (.bool true)),
    (110, .is (.bool true)),
    (111, .is (.bool true)),
    (112, .is (.int .i64 gb)),
    (113, .is (.int .i64 gb)),
    (114, .is (.bool true)),
    (115, .is (.bool true)),
    (116, .is (.bool true)),
    (117, .is (.pointer (some ⟨gN, 0, none⟩))),
    (118, .is (.int .i64 ov)),
    (119, .is (.agg #[.int .i64 c.N, .slice c.pA c.pn c.pc, .slice c.sA c.sn c.sc, .int .i64 c.L, .slice c.bA c.bn c.bc, .slice c.tA c.tn c.tc, .int .i64 c.M, .int .i64 c.G, .int .i64 c.F])),
    (120, .is (.int .i64 ov)),
    (121, .is (.bool true)),
    (122, .is (.bool true)),
    (123, .is (.bool true)),
    (124, .is (.bool true)),
    (125, .is (.bool true)),
    (6, .is (.bool true))] zz).P) (fun zz => (Reg.tbl _ zz).on) ?_ ?_
  · simp only [Reg.frame, Reg.over, Nat.reduceAdd, Nat.reduceBEq, Nat.reduceLeDiff, decide_true, decide_false, Bool.or_true, Bool.or_false, if_true, Bool.false_eq_true, if_false, Bool.and_true]
    refine ⟨?_, ?_, ?_, ?_, ?_, ?_, ?_, ?_, ?_, ?_, ?_, ?_, ?_, ?_, ?_, ?_, ?_, ?_, ?_, ?_, ?_, ?_, ?_, ?_, ?_, ?_, ?_, ?_, ?_, ?_, ?_, ?_, ?_, ?_, ?_, ?_, ?_, ?_, trivial⟩
    · intro x u hbu hd
      refine wpOp_step rfl fun K hK => ?_
      go_simp
      exact hK _ _ ⟨_, rfl, Below.refl _ _, fun d hd => by cases hd; exact rfl⟩
    · intro x u hbu hd
      refine wpOp_step rfl fun K hK => ?_
      go_simp
      exact hK _ _ ⟨_, rfl, Below.refl _ _, fun d hd => by cases hd; exact rfl⟩
    · intro x u hbu hd
      have h89 : x 89 = .int .i64 i := hd 0 (by decide)
      have h90 : x 90 = .int .i64 i := hd 1 (by decide)
      refine wpOp_step rfl fun K hK => ?_
      simp only [h89, h90] at hK ⊢
      go_simp
      exact hK _ _ ⟨_, rfl, Below.refl _ _, fun d hd => by cases hd; exact rfl⟩
    · intro x u hbu hd
      have h91 : x 91 = .bool true := hd 2 (by decide)
      refine wpOp_step rfl fun K hK => ?_
      simp only [h91] at hK ⊢
      go_simp
      exact hK _ _ ⟨_, rfl, Below.refl _ _, fun d hd => by cases hd; exact rfl⟩
    · intro x u hbu hd
      have h92 : x 92 = .bool true := hd 3 (by decide)
      refine wpOp_step rfl fun K hK => ?_
      simp only [h92] at hK ⊢
      go_simp
      exact hK _ _ ⟨_, rfl, Below.refl _ _, fun d hd => by cases hd; exact rfl⟩
    · intro x u hbu hd
      have h92 : x 92 = .bool true := hd 3 (by decide)
      refine wpOp_step rfl fun K hK => ?_
      simp only [h92] at hK ⊢
      go_simp
      exact hK _ _ ⟨_, rfl, Below.refl _ _, fun d hd => by cases hd; exact rfl⟩
    · intro x u hbu hd
      have h93 : x 93 = .bool true := hd 4 (by decide)
      have h94 : x 94 = .bool true := hd 5 (by decide)
      have h92 : x 92 = .bool true := hd 3 (by decide)
      refine wpOp_step rfl fun K hK => ?_
      simp only [h93, h94, h92] at hK ⊢
      go_simp
      exact hK _ _ ⟨_, rfl, Below.refl _ _, fun d hd => by cases hd; exact rfl⟩
    · intro x u hbu hd
      have h92 : x 92 = .bool true := hd 3 (by decide)
      have h95 : x 95 = .bool true := hd 6 (by decide)
      refine wpOp_step rfl fun K hK => ?_
      simp only [h92, h95] at hK ⊢
      go_simp
      exact hK _ _ ⟨_, rfl, Below.refl _ _, fun d hd => by cases hd; exact rfl⟩
    · intro x u hbu hd
      have h96 : x 96 = .bool true := hd 7 (by decide)
      refine wpOp_step rfl fun K hK => ?_
      simp only [h96] at hK ⊢
      go_simp
      exact hK _ _ ⟨_, rfl, Below.refl _ _, fun d hd => by cases hd; exact rfl⟩
    · intro x u hbu hd
      have h97 : x 97 = .bool true := hd 8 (by decide)
      obtain ⟨y0, y1, y2, y3, yl⟩ := (HWW.out.on hbu).wn
      refine wpOp_step rfl fun K hK => ?_
      simp only [h97] at hK ⊢
      go_simp
      exact hK _ _ ⟨_, rfl, Below.refl _ _, fun d hd => by cases hd; exact rfl⟩
    · intro x u hbu hd
      have h97 : x 97 = .bool true := hd 8 (by decide)
      refine wpOp_step rfl fun K hK => ?_
      simp only [h97] at hK ⊢
      go_simp
      exact hK _ _ ⟨_, rfl, Below.refl _ _, fun d hd => by cases hd; exact rfl⟩
    · intro x u hbu hd
      have h99 : x 99 = .pointer (some ⟨gT, 3, none⟩) := hd 10 (by decide)
      have h97 : x 97 = .bool true := hd 8 (by decide)
      have t3 := ((HTT.out.on hbu).cell 3).trans rfl
      have tl := (HTT.out.on hbu).lt
      refine wpOp_step rfl fun K hK => ?_
      simp only [h99, h97] at hK ⊢
      go_simp
      exact hK _ _ ⟨_, rfl, Below.refl _ _, fun d hd => by cases hd; exact rfl⟩
    · intro x u hbu hd
      have h97 : x 97 = .bool true := hd 8 (by decide)
      refine wpOp_step rfl fun K hK => ?_
      simp only [h97] at hK ⊢
      go_simp
      exact hK _ _ ⟨_, rfl, Below.refl _ _, fun d hd => by cases hd; exact rfl⟩
    · intro x u hbu hd
      have h98 : x 98 = .agg #[.int .u8 X.r, .int .i64 X.p, .int .i64 X.b, .int .i64 X.e] := hd 9 (by decide)
      have h100 : x 100 = .int .i64 x3 := hd 11 (by decide)
      have h101 : x 101 = .int .u8 s := hd 12 (by decide)
      have h97 : x 97 = .bool true := hd 8 (by decide)
      refine wpOp_step rfl fun K hK => ?_
      simp only [h98, h100, h101, h97] at hK ⊢
      go_simp
      with_reducible refine (winPass_is X x3 s s HPS.out _ HFT.out).mono ?_
      rintro e u' ⟨rfl, hb'⟩
      exact hK _ _ ⟨_, rfl, hb', fun d hd => by cases hd; exact rfl⟩
    · intro x u hbu hd
      have h97 : x 97 = .bool true := hd 8 (by decide)
      refine wpOp_step rfl fun K hK => ?_
      simp only [h97] at hK ⊢
      go_simp
      exact hK _ _ ⟨_, rfl, Below.refl _ _, fun d hd => by cases hd; exact rfl⟩
    · intro x u hbu hd
      have h102 : x 102 = .int .u8 s := hd 13 (by decide)
      have h103 : x 103 = .int .u8 s := hd 14 (by decide)
      have h97 : x 97 = .bool true := hd 8 (by decide)
      refine wpOp_step rfl fun K hK => ?_
      simp only [h102, h103, h97] at hK ⊢
      go_simp
      exact hK _ _ ⟨_, rfl, Below.refl _ _, fun d hd => by cases hd; exact rfl⟩
    · intro x u hbu hd
      have h97 : x 97 = .bool true := hd 8 (by decide)
      have h104 : x 104 = .bool true := hd 15 (by decide)
      refine wpOp_step rfl fun K hK => ?_
      simp only [h97, h104] at hK ⊢
      go_simp
      exact hK _ _ ⟨_, rfl, Below.refl _ _, fun d hd => by cases hd; exact rfl⟩
    · intro x u hbu hd
      have h105 : x 105 = .bool true := hd 16 (by decide)
      refine wpOp_step rfl fun K hK => ?_
      simp only [h105] at hK ⊢
      go_simp
      exact hK _ _ ⟨_, rfl, Below.refl _ _, fun d hd => by cases hd; exact rfl⟩
    · intro x u hbu hd
      have h106 : x 106 = .bool true := hd 17 (by decide)
      refine wpOp_step rfl fun K hK => ?_
      simp only [h106] at hK ⊢
      go_simp
      exact hK _ _ ⟨_, rfl, Below.refl _ _, fun d hd => by cases hd; exact rfl⟩
    · intro x u hbu hd
      have h106 : x 106 = .bool true := hd 17 (by decide)
      refine wpOp_step rfl fun K hK => ?_
      simp only [h106] at hK ⊢
      go_simp
      exact hK _ _ ⟨_, rfl, Below.refl _ _, fun d hd => by cases hd; exact rfl⟩
    · intro x u hbu hd
      have h107 : x 107 = .int .i64 ga := hd 18 (by decide)
      have h108 : x 108 = .int .i64 ga := hd 19 (by decide)
      have h106 : x 106 = .bool true := hd 17 (by decide)
      refine wpOp_step rfl fun K hK => ?_
      simp only [h107, h108, h106] at hK ⊢
      go_simp
      exact hK _ _ ⟨_, rfl, Below.refl _ _, fun d hd => by cases hd; exact rfl⟩
    · intro x u hbu hd
      have h106 : x 106 = .bool true := hd 17 (by decide)
      have h109 : x 109 = .bool true := hd 20 (by decide)
      refine wpOp_step rfl fun K hK => ?_
      simp only [h106, h109] at hK ⊢
      go_simp
      exact hK _ _ ⟨_, rfl, Below.refl _ _, fun d hd => by cases hd; exact rfl⟩
    · intro x u hbu hd
      have h110 : x 110 = .bool true := hd 21 (by decide)
      refine wpOp_step rfl fun K hK => ?_
      simp only [h110] at hK ⊢
      go_simp
      exact hK _ _ ⟨_, rfl, Below.refl _ _, fun d hd => by cases hd; exact rfl⟩
    · intro x u hbu hd
      have h111 : x 111 = .bool true := hd 22 (by decide)
      refine wpOp_step rfl fun K hK => ?_
      simp only [h111] at hK ⊢
      go_simp
      exact hK _ _ ⟨_, rfl, Below.refl _ _, fun d hd => by cases hd; exact rfl⟩
    · intro x u hbu hd
      have h111 : x 111 = .bool true := hd 22 (by decide)
      refine wpOp_step rfl fun K hK => ?_
      simp only [h111] at hK ⊢
      go_simp
      exact hK _ _ ⟨_, rfl, Below.refl _ _, fun d hd => by cases hd; exact rfl⟩
    · intro x u hbu hd
      have h112 : x 112 = .int .i64 gb := hd 23 (by decide)
      have h113 : x 113 = .int .i64 gb := hd 24 (by decide)
      have h111 : x 111 = .bool true := hd 22 (by decide)
      refine wpOp_step rfl fun K hK => ?_
      simp only [h112, h113, h111] at hK ⊢
      go_simp
      exact hK _ _ ⟨_, rfl, Below.refl _ _, fun d hd => by cases hd; exact rfl⟩
    · intro x u hbu hd
      have h111 : x 111 = .bool true := hd 22 (by decide)
      have h114 : x 114 = .bool true := hd 25 (by decide)
      refine wpOp_step rfl fun K hK => ?_
      simp only [h111, h114] at hK ⊢
      go_simp
      exact hK _ _ ⟨_, rfl, Below.refl _ _, fun d hd => by cases hd; exact rfl⟩
    · intro x u hbu hd
      have h115 : x 115 = .bool true := hd 26 (by decide)
      refine wpOp_step rfl fun K hK => ?_
      simp only [h115] at hK ⊢
      go_simp
      exact hK _ _ ⟨_, rfl, Below.refl _ _, fun d hd => by cases hd; exact rfl⟩
    · intro x u hbu hd
      have h116 : x 116 = .bool true := hd 27 (by decide)
      refine wpOp_step rfl fun K hK => ?_
      simp only [h116] at hK ⊢
      go_simp
      exact hK _ _ ⟨_, rfl, Below.refl _ _, fun d hd => by cases hd; exact rfl⟩
    · intro x u hbu hd
      have h117 : x 117 = .pointer (some ⟨gN, 0, none⟩) := hd 28 (by decide)
      have h116 : x 116 = .bool true := hd 27 (by decide)
      refine wpOp_step rfl fun K hK => ?_
      simp only [h117, h116] at hK ⊢
      go_simp
      with_reducible refine (winOver_is _ c.N c.P ov HOV.out _ (HNN.out.on hbu) (HLL.out.on hbu)).mono ?_
      rintro e u' ⟨rfl, hb'⟩
      exact hK _ _ ⟨_, rfl, hb', fun d hd => by cases hd; exact rfl⟩
    · intro x u hbu hd
      have h116 : x 116 = .bool true := hd 27 (by decide)
      obtain ⟨k0, k1, k2, k3, k4, k5, k6, k7, k8⟩ := (HBB.out.on hbu).cf
      have kl := (HBB.out.on hbu).lt
      refine wpOp_step rfl fun K hK => ?_
      simp only [h116] at hK ⊢
      go_simp
      exact hK _ _ ⟨_, rfl, Below.refl _ _, fun d hd => by cases hd; exact rfl⟩
    · intro x u hbu hd
      have h119 : x 119 = .agg #[.int .i64 c.N, .slice c.pA c.pn c.pc, .slice c.sA c.sn c.sc, .int .i64 c.L, .slice c.bA c.bn c.bc, .slice c.tA c.tn c.tc, .int .i64 c.M, .int .i64 c.G, .int .i64 c.F] := hd 30 (by decide)
      have h116 : x 116 = .bool true := hd 27 (by decide)
      refine wpOp_step rfl fun K hK => ?_
      simp only [h119, h116] at hK ⊢
      go_simp
      with_reducible refine (refOver_is c ov HOV.out _ (HCC.out.on hbu) H0.out).mono ?_
      rintro e u' ⟨rfl, hb'⟩
      exact hK _ _ ⟨_, rfl, hb', fun d hd => by cases hd; exact rfl⟩
    · intro x u hbu hd
      have h118 : x 118 = .int .i64 ov := hd 29 (by decide)
      have h120 : x 120 = .int .i64 ov := hd 31 (by decide)
      have h116 : x 116 = .bool true := hd 27 (by decide)
      refine wpOp_step rfl fun K hK => ?_
      simp only [h118, h120, h116] at hK ⊢
      go_simp
      exact hK _ _ ⟨_, rfl, Below.refl _ _, fun d hd => by cases hd; exact rfl⟩
    · intro x u hbu hd
      have h116 : x 116 = .bool true := hd 27 (by decide)
      have h121 : x 121 = .bool true := hd 32 (by decide)
      refine wpOp_step rfl fun K hK => ?_
      simp only [h116, h121] at hK ⊢
      go_simp
      exact hK _ _ ⟨_, rfl, Below.refl _ _, fun d hd => by cases hd; exact rfl⟩
    · intro x u hbu hd
      have h122 : x 122 = .bool true := hd 33 (by decide)
      refine wpOp_step rfl fun K hK => ?_
      simp only [h122] at hK ⊢
      go_simp
      exact hK _ _ ⟨_, rfl, Below.refl _ _, fun d hd => by cases hd; exact rfl⟩
    · intro x u hbu hd
      have h123 : x 123 = .bool true := hd 34 (by decide)
      refine wpOp_step rfl fun K hK => ?_
      simp only [h123] at hK ⊢
      go_simp
      with_reducible refine (lives_wn _ (HLL.out.on hbu)).mono ?_
      rintro e u' ⟨rfl, hb'⟩
      exact hK _ _ ⟨_, rfl, hb', fun d hd => by cases hd; exact rfl⟩
    · intro x u hbu hd
      have h123 : x 123 = .bool true := hd 34 (by decide)
      have h124 : x 124 = .bool true := hd 35 (by decide)
      refine wpOp_step rfl fun K hK => ?_
      simp only [h123, h124] at hK ⊢
      go_simp
      exact hK _ _ ⟨_, rfl, Below.refl _ _, fun d hd => by cases hd; exact rfl⟩
    · intro x u hbu hd
      have h125 : x 125 = .bool true := hd 36 (by decide)
      refine wpOp_step rfl fun K hK => ?_
      simp only [h125] at hK ⊢
      go_simp
      exact hK _ _ ⟨_, rfl, Below.refl _ _, fun d hd => by cases hd; exact rfl⟩
  · intro y u2 hbu hall
    have h6 : y 6 = .bool true := hall 37 (by decide)
    simp only [Reg.frame, Reg.over, Nat.reduceAdd, Nat.reduceBEq, Nat.reduceLeDiff, decide_true, decide_false, Bool.or_true, Bool.or_false, if_true, Bool.false_eq_true, if_false, Bool.and_true, h6]
    have hb6 := below_then HBZ.out hbu
    clear hbu hall
    go_wp2_with fail
    go_ret
    exact ⟨rfl, hb6⟩
set_option maxRecDepth 100000 in
set_option maxHeartbeats 4000000 in
theorem windowsOf_false (c : Cf) (x0 x1 x2 x3 s : Int) (d : Int) (hdd : IntKind.u8.wrap x0 = d) (hd0 : 0 ≤ d) (hd1 : d ≤ 255) (X : Wn) (hX : ofW c.N c.P d x1 x2 = X) (hb : opB X x3 = false) (w : World) (hw : Laid2 w) (hc : CfIn w c) (hg : greatB c = false) (h0 : newE c = 0) :
    Calls Tryd.prog 3 #[.agg #[.int .i64 c.N, .slice c.pA c.pn c.pc, .slice c.sA c.sn c.sc, .int .i64 c.L, .slice c.bA c.bn c.bc, .slice c.tA c.tn c.tc, .int .i64 c.M, .int .i64 c.G, .int .i64 c.F], .agg #[.int .i64 x0, .int .i64 x1, .int .i64 x2, .int .i64 x3], .int .u8 s] w fun e w' => e = .returned (.bool true) ∧ Below w.heap.size w w' := by
  have hB0 : Below w.heap.size w ((w.alloc (.cells #[.int .i64 c.N, .slice c.pA c.pn c.pc, .slice c.sA c.sn c.sc, .int .i64 c.L, .slice c.bA c.bn c.bc, .slice c.tA c.tn c.tc, .int .i64 c.M, .int .i64 c.G, .int .i64 c.F] 25)).alloc (.cells #[.int .i64 x0, .int .i64 x1, .int .i64 x2, .int .i64 x3] 26)) := below_al (below_al (Below.refl w.heap.size w) (.cells #[.int .i64 c.N, .slice c.pA c.pn c.pc, .slice c.sA c.sn c.sc, .int .i64 c.L, .slice c.bA c.bn c.bc, .slice c.tA c.tn c.tc, .int .i64 c.M, .int .i64 c.G, .int .i64 c.F] 25)) (.cells #[.int .i64 x0, .int .i64 x1, .int .i64 x2, .int .i64 x3] 26)
  have HC0 := Lib.hid ((Blk.new w 25 #[.int .i64 c.N, .slice c.pA c.pn c.pc, .slice c.sA c.sn c.sc, .int .i64 c.L, .slice c.bA c.bn c.bc, .slice c.tA c.tn c.tc, .int .i64 c.M, .int .i64 c.G, .int .i64 c.F]).alloc (.cells #[.int .i64 x0, .int .i64 x1, .int .i64 x2, .int .i64 x3] 26))
  have HT0 : Hid (Blk ((w.alloc (.cells #[.int .i64 c.N, .slice c.pA c.pn c.pc, .slice c.sA c.sn c.sc, .int .i64 c.L, .slice c.bA c.bn c.bc, .slice c.tA c.tn c.tc, .int .i64 c.M, .int .i64 c.G, .int .i64 c.F] 25)).alloc (.cells #[.int .i64 x0, .int .i64 x1, .int .i64 x2, .int .i64 x3] 26)) (w.heap.size + 1) 26 #[.int .i64 x0, .int .i64 x1, .int .i64 x2, .int .i64 x3]) := Lib.hid (by
    have h := Blk.new (w.alloc (.cells #[.int .i64 c.N, .slice c.pA c.pn c.pc, .slice c.sA c.sn c.sc, .int .i64 c.L, .slice c.bA c.bn c.bc, .slice c.tA c.tn c.tc, .int .i64 c.M, .int .i64 c.G, .int .i64 c.F] 25)) 26 #[.int .i64 x0, .int .i64 x1, .int .i64 x2, .int .i64 x3]
    rwa [alloc_size] at h)
  have HW0 := Lib.hid (hw.on hB0)
  have HIN0 := Lib.hid (hc.on hB0)
  have HB0 := Lib.hid hB0
  have HG := Lib.hid hg
  have H0 := Lib.hid h0
  have HX := Lib.hid hX
  have HFT := Lib.hid (show WnFit X by rw [← hX]; exact fit_of _ _ _ _ _)
  have HR := Lib.hid (show 0 ≤ X.r ∧ X.r ≤ 255 by rw [← hX]; exact wn_role _ _ _ _ _)
  obtain ⟨E, hE⟩ : ∃ E, ofWE c.N c.P d x1 x2 = E := ⟨_, rfl⟩
  obtain ⟨i, hi⟩ : ∃ i, opI X x3 = i := ⟨_, rfl⟩
  obtain ⟨ga, hga⟩ : ∃ g, guM c.N 0 (atM c.P x1) = g := ⟨_, rfl⟩
  obtain ⟨gb, hgb⟩ : ∃ g, guM c.N 1 (atM c.P x1) = g := ⟨_, rfl⟩
  obtain ⟨ov, hov⟩ : ∃ g, ovM c.N = g := ⟨_, rfl⟩
  have HE := Lib.hid hE
  have HI := Lib.hid hi
  have HB := Lib.hid hb
  have HPS := Lib.hid (show passM X x3 s = 0 by rw [passM, hb]; rfl)
  have HGA := Lib.hid hga
  have HGB := Lib.hid hgb
  have HOV := Lib.hid hov
  clear hE hi hga hgb hov hb hX hw hc hg h0 hB0
  go_enter Tryd.func3, Tryd.ntmps3
  go_upto_region 16 with (first
    | (go_at_call 8; (with_reducible refine (netWn c _ HW0.out HIN0.out HG.out H0.out).mono ?_); rintro e w1 ⟨gN, rfl, hN1, b1⟩; have hB1 := below_then HB0.out b1; have hW1 := HW0.out.on b1; have hC1 := HC0.out.on b1; have hT1 := HT0.out.on b1; have t0 := hT1.cell 0; have t1 := hT1.cell 1; have t2 := hT1.cell 2; have tl := hT1.lt; simp only [List.getElem?_toArray, List.getElem?_cons_zero, List.getElem?_cons_succ] at t0 t1 t2)
    | (go_at_call 10; (with_reducible refine (winOf_is _ c.N c.P d x1 x2 X HX.out E HE.out w1 hN1 hW1 hd0 hd1).mono ?_); rintro e w2 ⟨rfl, b2⟩; clear t0 t1 t2 tl; have b2' := below_al b2 (.cells #[.int .u8 X.r, .int .i64 X.p, .int .i64 X.b, .int .i64 X.e] 33); have hX2 := Blk.new w2 33 #[.int .u8 X.r, .int .i64 X.p, .int .i64 X.b, .int .i64 X.e]; have hT2 := hT1.on b2'; have hC2 := hC1.on b2'; have t1 := hT2.cell 1; have t2 := hT2.cell 2; have tl := hT2.lt; simp only [List.getElem?_toArray, List.getElem?_cons_zero, List.getElem?_cons_succ] at t1 t2; obtain ⟨k0, k1, k2, k3, k4, k5, k6, k7, k8⟩ := hC2.cf; have kl := hC2.lt)
    | (go_at_call 11; (with_reducible refine (refOfW_is c d x1 x2 X HX.out E HE.out _ ((HIN0.out.on b1).on b2') H0.out hd0 hd1).mono ?_); rintro e w3 ⟨rfl, b3⟩; clear t1 t2 tl; clear k0 k1 k2 k3 k4 k5 k6 k7 k8 kl; have b3' := below_al b3 (.cells #[.int .i64 X.r, .int .i64 X.p, .int .i64 X.b, .int .i64 X.e] 38); have hY3 := Blk.new w3 38 #[.int .i64 X.r, .int .i64 X.p, .int .i64 X.b, .int .i64 X.e]; have hX3 := hX2.on b3'; obtain ⟨y0, y1, y2, y3, yl⟩ := hX3.wn; obtain ⟨z0, z1, z2, z3, zl⟩ := hY3.wr)
    | (go_at_call 12; (with_reducible refine (same_is X _ HR.out.1 HR.out.2).mono ?_); rintro e w4 ⟨rfl, b4⟩; clear y0 y1 y2 y3 yl z0 z1 z2 z3 zl; have b24 := below_then (below_then b2' b3') b4; have hX4 := hX3.on b4; have hY4 := hY3.on b4; have hT4 := hT1.on b24; have t3 := hT4.cell 3; have tl := hT4.lt; simp only [List.getElem?_toArray, List.getElem?_cons_zero, List.getElem?_cons_succ] at t3; obtain ⟨y0, y1, y2, y3, yl⟩ := hX4.wn)
    | (go_at_call 13; (with_reducible refine (winAt_is X x3 i HI.out false HB.out _ HFT.out).mono ?_); rintro e w5 ⟨rfl, b5⟩; clear y0 y1 y2 y3 yl t3 tl; have hY5 := hY4.on b5; have hT5 := hT4.on b5; have t3 := hT5.cell 3; have tl := hT5.lt; simp only [List.getElem?_toArray, List.getElem?_cons_zero, List.getElem?_cons_succ] at t3; obtain ⟨z0, z1, z2, z3, zl⟩ := hY5.wr)
    | (go_at_call 14; (with_reducible refine (refAt_is X x3 i HI.out false HB.out _ HFT.out).mono ?_); rintro e w6 ⟨rfl, b6⟩; clear z0 z1 z2 z3 zl t3 tl; have b46 := below_then (below_then b24 b5) b6; have hT6 := hT1.on b46; have hN6 := hN1.on b46; have hW6 := hW1.on b46; have t1 := hT6.cell 1; have tl := hT6.lt; simp only [List.getElem?_toArray, List.getElem?_cons_zero, List.getElem?_cons_succ] at t1)
    | (go_at_call 15; (with_reducible refine (guards_is _ c.N c.P x1 ga gb HGA.out HGB.out _ hN6 hW6).mono ?_); rintro e w7 ⟨rfl, b7⟩; clear t1 tl; have b67 := below_then b46 b7; have hT7 := hT1.on b67; have hC7 := hC1.on b67; have t1 := hT7.cell 1; have tl := hT7.lt; simp only [List.getElem?_toArray, List.getElem?_cons_zero, List.getElem?_cons_succ] at t1; obtain ⟨k0, k1, k2, k3, k4, k5, k6, k7, k8⟩ := hC7.cf; have kl := hC7.lt)
    | (go_at_call 16; (with_reducible refine (refGuards_is c x1 ga gb HGA.out HGB.out _ ((HIN0.out.on b1).on b67) H0.out).mono ?_); rintro e w8 ⟨rfl, b8⟩; clear t1 tl; clear k0 k1 k2 k3 k4 k5 k6 k7 k8 kl; have b78 := below_then b67 b8))
  have HWW := Lib.hid (((hX4.on b5).on b6 |>.on b7).on b8)
  have HTT := Lib.hid (hT1.on b78)
  have HBB := Lib.hid (hC1.on b78)
  have HNN := Lib.hid (hN1.on b78)
  have HLL := Lib.hid (hW1.on b78)
  have HCC := Lib.hid ((HIN0.out.on b1).on b78)
  have HBZ := Lib.hid (below_then hB1 b78)
  obtain ⟨gT, hgT⟩ : ∃ gT, gT = w.heap.size + 1 := ⟨_, rfl⟩
  rw [← hgT] at HTT ⊢
  clear hgT hX2 hX3 hX4 hY3 hY4 hY5 hT1 hT2 hT4 hT5 hT6 hT7 hC1 hC2 hC7 hN1 hN6 hW1 hW6 b1 b2 b2' b3 b3' b4 b5 b6 b7 b8 b24 b46 b67 b78 hB1
  refine Reg.wp_slots (fun t => t == 6 || (decide (89 ≤ t) && decide (t ≤ 125))) (by kernel_rfl) (by kernel_rfl) (by kernel_rfl) (fun zz => (Reg.tbl [
    (89, .is (.int .i64 i)),
    (90, .is (.int .i64 i)),
    (91, .is (.bool true)),
    (92, .is (.bool true)),
    (93, .is (.bool false)),
    (94, .is (.bool false)),
    (95, .is (.bool true)),
    (96, .is (.bool true)),
    (97, .is (.bool true)),
    (98, .is (.agg #[.int .u8 X.r, .int .i64 X.p, .int .i64 X.b, .int .i64 X.e])),
    (99, .is (.pointer (some ⟨gT, 3, none⟩))),
    (100, .is (.int .i64 x3)),
    (101, .is (.int .u8 s)),
    (102, .is (.int .u8 0)),
    (103, .is (.int .u8 0)),
    (104, .is (.bool true)),
    (105, .is (.bool true)),
    (106, .is (.bool true)),
    (107, .is (.int .i64 ga)),
    (108, .is (.int .i64 ga)),
    (109, .is (.bool true)),
    (110, .is (.bool true)),
    (111, .is (.bool true)),
    (112, .is (.int .i64 gb)),
    (113, .is (.int .i64 gb)),
    (114, .is (.bool true)),
    (115, .is (.bool true)),
    (116, .is (.bool true)),
    (117, .is (.pointer (some ⟨gN, 0, none⟩))),
    (118, .is (.int .i64 ov)),
    (119, .is (.agg #[.int .i64 c.N, .slice c.pA c.pn c.pc, .slice c.sA c.sn c.sc, .int .i64 c.L, .slice c.bA c.bn c.bc, .slice c.tA c.tn c.tc, .int .i64 c.M, .int .i64 c.G, .int .i64 c.F])),
    (120, .is (.int .i64 ov)),
    (121, .is (.bool true)),
    (122, .is (.bool true)),
    (123, .is (.bool true)),
    (124, .is (.bool true)),
    (125, .is (.bool true)),
    (6, .is (.bool true))] zz).P) (fun zz => (Reg.tbl _ zz).on) ?_ ?_
  · simp only [Reg.frame, Reg.over, Nat.reduceAdd, Nat.reduceBEq, Nat.reduceLeDiff, decide_true, decide_false, Bool.or_true, Bool.or_false, if_true, Bool.false_eq_true, if_false, Bool.and_true]
    refine ⟨?_, ?_, ?_, ?_, ?_, ?_, ?_, ?_, ?_, ?_, ?_, ?_, ?_, ?_, ?_, ?_, ?_, ?_, ?_, ?_, ?_, ?_, ?_, ?_, ?_, ?_, ?_, ?_, ?_, ?_, ?_, ?_, ?_, ?_, ?_, ?_, ?_, ?_, trivial⟩
    · intro x u hbu hd
      refine wpOp_step rfl fun K hK => ?_
      go_simp
      exact hK _ _ ⟨_, rfl, Below.refl _ _, fun d hd => by cases hd; exact rfl⟩
    · intro x u hbu hd
      refine wpOp_step rfl fun K hK => ?_
      go_simp
      exact hK _ _ ⟨_, rfl, Below.refl _ _, fun d hd => by cases hd; exact rfl⟩
    · intro x u hbu hd
      have h89 : x 89 = .int .i64 i := hd 0 (by decide)
      have h90 : x 90 = .int .i64 i := hd 1 (by decide)
      refine wpOp_step rfl fun K hK => ?_
      simp only [h89, h90] at hK ⊢
      go_simp
      exact hK _ _ ⟨_, rfl, Below.refl _ _, fun d hd => by cases hd; exact rfl⟩
    · intro x u hbu hd
      have h91 : x 91 = .bool true := hd 2 (by decide)
      refine wpOp_step rfl fun K hK => ?_
      simp only [h91] at hK ⊢
      go_simp
      exact hK _ _ ⟨_, rfl, Below.refl _ _, fun d hd => by cases hd; exact rfl⟩
    · intro x u hbu hd
      have h92 : x 92 = .bool true := hd 3 (by decide)
      refine wpOp_step rfl fun K hK => ?_
      simp only [h92] at hK ⊢
      go_simp
      exact hK _ _ ⟨_, rfl, Below.refl _ _, fun d hd => by cases hd; exact rfl⟩
    · intro x u hbu hd
      have h92 : x 92 = .bool true := hd 3 (by decide)
      refine wpOp_step rfl fun K hK => ?_
      simp only [h92] at hK ⊢
      go_simp
      exact hK _ _ ⟨_, rfl, Below.refl _ _, fun d hd => by cases hd; exact rfl⟩
    · intro x u hbu hd
      have h93 : x 93 = .bool false := hd 4 (by decide)
      have h94 : x 94 = .bool false := hd 5 (by decide)
      have h92 : x 92 = .bool true := hd 3 (by decide)
      refine wpOp_step rfl fun K hK => ?_
      simp only [h93, h94, h92] at hK ⊢
      go_simp
      exact hK _ _ ⟨_, rfl, Below.refl _ _, fun d hd => by cases hd; exact rfl⟩
    · intro x u hbu hd
      have h92 : x 92 = .bool true := hd 3 (by decide)
      have h95 : x 95 = .bool true := hd 6 (by decide)
      refine wpOp_step rfl fun K hK => ?_
      simp only [h92, h95] at hK ⊢
      go_simp
      exact hK _ _ ⟨_, rfl, Below.refl _ _, fun d hd => by cases hd; exact rfl⟩
    · intro x u hbu hd
      have h96 : x 96 = .bool true := hd 7 (by decide)
      refine wpOp_step rfl fun K hK => ?_
      simp only [h96] at hK ⊢
      go_simp
      exact hK _ _ ⟨_, rfl, Below.refl _ _, fun d hd => by cases hd; exact rfl⟩
    · intro x u hbu hd
      have h97 : x 97 = .bool true := hd 8 (by decide)
      obtain ⟨y0, y1, y2, y3, yl⟩ := (HWW.out.on hbu).wn
      refine wpOp_step rfl fun K hK => ?_
      simp only [h97] at hK ⊢
      go_simp
      exact hK _ _ ⟨_, rfl, Below.refl _ _, fun d hd => by cases hd; exact rfl⟩
    · intro x u hbu hd
      have h97 : x 97 = .bool true := hd 8 (by decide)
      refine wpOp_step rfl fun K hK => ?_
      simp only [h97] at hK ⊢
      go_simp
      exact hK _ _ ⟨_, rfl, Below.refl _ _, fun d hd => by cases hd; exact rfl⟩
    · intro x u hbu hd
      have h99 : x 99 = .pointer (some ⟨gT, 3, none⟩) := hd 10 (by decide)
      have h97 : x 97 = .bool true := hd 8 (by decide)
      have t3 := ((HTT.out.on hbu).cell 3).trans rfl
      have tl := (HTT.out.on hbu).lt
      refine wpOp_step rfl fun K hK => ?_
      simp only [h99, h97] at hK ⊢
      go_simp
      exact hK _ _ ⟨_, rfl, Below.refl _ _, fun d hd => by cases hd; exact rfl⟩
    · intro x u hbu hd
      have h97 : x 97 = .bool true := hd 8 (by decide)
      refine wpOp_step rfl fun K hK => ?_
      simp only [h97] at hK ⊢
      go_simp
      exact hK _ _ ⟨_, rfl, Below.refl _ _, fun d hd => by cases hd; exact rfl⟩
    · intro x u hbu hd
      have h98 : x 98 = .agg #[.int .u8 X.r, .int .i64 X.p, .int .i64 X.b, .int .i64 X.e] := hd 9 (by decide)
      have h100 : x 100 = .int .i64 x3 := hd 11 (by decide)
      have h101 : x 101 = .int .u8 s := hd 12 (by decide)
      have h97 : x 97 = .bool true := hd 8 (by decide)
      refine wpOp_step rfl fun K hK => ?_
      simp only [h98, h100, h101, h97] at hK ⊢
      go_simp
      with_reducible refine (winPass_is X x3 s 0 HPS.out _ HFT.out).mono ?_
      rintro e u' ⟨rfl, hb'⟩
      exact hK _ _ ⟨_, rfl, hb', fun d hd => by cases hd; exact rfl⟩
    · intro x u hbu hd
      have h97 : x 97 = .bool true := hd 8 (by decide)
      refine wpOp_step rfl fun K hK => ?_
      simp only [h97] at hK ⊢
      go_simp
      exact hK _ _ ⟨_, rfl, Below.refl _ _, fun d hd => by cases hd; exact rfl⟩
    · intro x u hbu hd
      have h102 : x 102 = .int .u8 0 := hd 13 (by decide)
      have h103 : x 103 = .int .u8 0 := hd 14 (by decide)
      have h97 : x 97 = .bool true := hd 8 (by decide)
      refine wpOp_step rfl fun K hK => ?_
      simp only [h102, h103, h97] at hK ⊢
      go_simp
      exact hK _ _ ⟨_, rfl, Below.refl _ _, fun d hd => by cases hd; exact rfl⟩
    · intro x u hbu hd
      have h97 : x 97 = .bool true := hd 8 (by decide)
      have h104 : x 104 = .bool true := hd 15 (by decide)
      refine wpOp_step rfl fun K hK => ?_
      simp only [h97, h104] at hK ⊢
      go_simp
      exact hK _ _ ⟨_, rfl, Below.refl _ _, fun d hd => by cases hd; exact rfl⟩
    · intro x u hbu hd
      have h105 : x 105 = .bool true := hd 16 (by decide)
      refine wpOp_step rfl fun K hK => ?_
      simp only [h105] at hK ⊢
      go_simp
      exact hK _ _ ⟨_, rfl, Below.refl _ _, fun d hd => by cases hd; exact rfl⟩
    · intro x u hbu hd
      have h106 : x 106 = .bool true := hd 17 (by decide)
      refine wpOp_step rfl fun K hK => ?_
      simp only [h106] at hK ⊢
      go_simp
      exact hK _ _ ⟨_, rfl, Below.refl _ _, fun d hd => by cases hd; exact rfl⟩
    · intro x u hbu hd
      have h106 : x 106 = .bool true := hd 17 (by decide)
      refine wpOp_step rfl fun K hK => ?_
      simp only [h106] at hK ⊢
      go_simp
      exact hK _ _ ⟨_, rfl, Below.refl _ _, fun d hd => by cases hd; exact rfl⟩
    · intro x u hbu hd
      have h107 : x 107 = .int .i64 ga := hd 18 (by decide)
      have h108 : x 108 = .int .i64 ga := hd 19 (by decide)
      have h106 : x 106 = .bool true := hd 17 (by decide)
      refine wpOp_step rfl fun K hK => ?_
      simp only [h107, h108, h106] at hK ⊢
      go_simp
      exact hK _ _ ⟨_, rfl, Below.refl _ _, fun d hd => by cases hd; exact rfl⟩
    · intro x u hbu hd
      have h106 : x 106 = .bool true := hd 17 (by decide)
      have h109 : x 109 = .bool true := hd 20 (by decide)
      refine wpOp_step rfl fun K hK => ?_
      simp only [h106, h109] at hK ⊢
      go_simp
      exact hK _ _ ⟨_, rfl, Below.refl _ _, fun d hd => by cases hd; exact rfl⟩
    · intro x u hbu hd
      have h110 : x 110 = .bool true := hd 21 (by decide)
      refine wpOp_step rfl fun K hK => ?_
      simp only [h110] at hK ⊢
      go_simp
      exact hK _ _ ⟨_, rfl, Below.refl _ _, fun d hd => by cases hd; exact rfl⟩
    · intro x u hbu hd
      have h111 : x 111 = .bool true := hd 22 (by decide)
      refine wpOp_step rfl fun K hK => ?_
      simp only [h111] at hK ⊢
      go_simp
      exact hK _ _ ⟨_, rfl, Below.refl _ _, fun d hd => by cases hd; exact rfl⟩
    · intro x u hbu hd
      have h111 : x 111 = .bool true := hd 22 (by decide)
      refine wpOp_step rfl fun K hK => ?_
      simp only [h111] at hK ⊢
      go_simp
      exact hK _ _ ⟨_, rfl, Below.refl _ _, fun d hd => by cases hd; exact rfl⟩
    · intro x u hbu hd
      have h112 : x 112 = .int .i64 gb := hd 23 (by decide)
      have h113 : x 113 = .int .i64 gb := hd 24 (by decide)
      have h111 : x 111 = .bool true := hd 22 (by decide)
      refine wpOp_step rfl fun K hK => ?_
      simp only [h112, h113, h111] at hK ⊢
      go_simp
      exact hK _ _ ⟨_, rfl, Below.refl _ _, fun d hd => by cases hd; exact rfl⟩
    · intro x u hbu hd
      have h111 : x 111 = .bool true := hd 22 (by decide)
      have h114 : x 114 = .bool true := hd 25 (by decide)
      refine wpOp_step rfl fun K hK => ?_
      simp only [h111, h114] at hK ⊢
      go_simp
      exact hK _ _ ⟨_, rfl, Below.refl _ _, fun d hd => by cases hd; exact rfl⟩
    · intro x u hbu hd
      have h115 : x 115 = .bool true := hd 26 (by decide)
      refine wpOp_step rfl fun K hK => ?_
      simp only [h115] at hK ⊢
      go_simp
      exact hK _ _ ⟨_, rfl, Below.refl _ _, fun d hd => by cases hd; exact rfl⟩
    · intro x u hbu hd
      have h116 : x 116 = .bool true := hd 27 (by decide)
      refine wpOp_step rfl fun K hK => ?_
      simp only [h116] at hK ⊢
      go_simp
      exact hK _ _ ⟨_, rfl, Below.refl _ _, fun d hd => by cases hd; exact rfl⟩
    · intro x u hbu hd
      have h117 : x 117 = .pointer (some ⟨gN, 0, none⟩) := hd 28 (by decide)
      have h116 : x 116 = .bool true := hd 27 (by decide)
      refine wpOp_step rfl fun K hK => ?_
      simp only [h117, h116] at hK ⊢
      go_simp
      with_reducible refine (winOver_is _ c.N c.P ov HOV.out _ (HNN.out.on hbu) (HLL.out.on hbu)).mono ?_
      rintro e u' ⟨rfl, hb'⟩
      exact hK _ _ ⟨_, rfl, hb', fun d hd => by cases hd; exact rfl⟩
    · intro x u hbu hd
      have h116 : x 116 = .bool true := hd 27 (by decide)
      obtain ⟨k0, k1, k2, k3, k4, k5, k6, k7, k8⟩ := (HBB.out.on hbu).cf
      have kl := (HBB.out.on hbu).lt
      refine wpOp_step rfl fun K hK => ?_
      simp only [h116] at hK ⊢
      go_simp
      exact hK _ _ ⟨_, rfl, Below.refl _ _, fun d hd => by cases hd; exact rfl⟩
    · intro x u hbu hd
      have h119 : x 119 = .agg #[.int .i64 c.N, .slice c.pA c.pn c.pc, .slice c.sA c.sn c.sc, .int .i64 c.L, .slice c.bA c.bn c.bc, .slice c.tA c.tn c.tc, .int .i64 c.M, .int .i64 c.G, .int .i64 c.F] := hd 30 (by decide)
      have h116 : x 116 = .bool true := hd 27 (by decide)
      refine wpOp_step rfl fun K hK => ?_
      simp only [h119, h116] at hK ⊢
      go_simp
      with_reducible refine (refOver_is c ov HOV.out _ (HCC.out.on hbu) H0.out).mono ?_
      rintro e u' ⟨rfl, hb'⟩
      exact hK _ _ ⟨_, rfl, hb', fun d hd => by cases hd; exact rfl⟩
    · intro x u hbu hd
      have h118 : x 118 = .int .i64 ov := hd 29 (by decide)
      have h120 : x 120 = .int .i64 ov := hd 31 (by decide)
      have h116 : x 116 = .bool true := hd 27 (by decide)
      refine wpOp_step rfl fun K hK => ?_
      simp only [h118, h120, h116] at hK ⊢
      go_simp
      exact hK _ _ ⟨_, rfl, Below.refl _ _, fun d hd => by cases hd; exact rfl⟩
    · intro x u hbu hd
      have h116 : x 116 = .bool true := hd 27 (by decide)
      have h121 : x 121 = .bool true := hd 32 (by decide)
      refine wpOp_step rfl fun K hK => ?_
      simp only [h116, h121] at hK ⊢
      go_simp
      exact hK _ _ ⟨_, rfl, Below.refl _ _, fun d hd => by cases hd; exact rfl⟩
    · intro x u hbu hd
      have h122 : x 122 = .bool true := hd 33 (by decide)
      refine wpOp_step rfl fun K hK => ?_
      simp only [h122] at hK ⊢
      go_simp
      exact hK _ _ ⟨_, rfl, Below.refl _ _, fun d hd => by cases hd; exact rfl⟩
    · intro x u hbu hd
      have h123 : x 123 = .bool true := hd 34 (by decide)
      refine wpOp_step rfl fun K hK => ?_
      simp only [h123] at hK ⊢
      go_simp
      with_reducible refine (lives_wn _ (HLL.out.on hbu)).mono ?_
      rintro e u' ⟨rfl, hb'⟩
      exact hK _ _ ⟨_, rfl, hb', fun d hd => by cases hd; exact rfl⟩
    · intro x u hbu hd
      have h123 : x 123 = .bool true := hd 34 (by decide)
      have h124 : x 124 = .bool true := hd 35 (by decide)
      refine wpOp_step rfl fun K hK => ?_
      simp only [h123, h124] at hK ⊢
      go_simp
      exact hK _ _ ⟨_, rfl, Below.refl _ _, fun d hd => by cases hd; exact rfl⟩
    · intro x u hbu hd
      have h125 : x 125 = .bool true := hd 36 (by decide)
      refine wpOp_step rfl fun K hK => ?_
      simp only [h125] at hK ⊢
      go_simp
      exact hK _ _ ⟨_, rfl, Below.refl _ _, fun d hd => by cases hd; exact rfl⟩
  · intro y u2 hbu hall
    have h6 : y 6 = .bool true := hall 37 (by decide)
    simp only [Reg.frame, Reg.over, Nat.reduceAdd, Nat.reduceBEq, Nat.reduceLeDiff, decide_true, decide_false, Bool.or_true, Bool.or_false, if_true, Bool.false_eq_true, if_false, Bool.and_true, h6]
    have hb6 := below_then HBZ.out hbu
    clear hbu hall
    go_wp2_with fail
    go_ret
    exact ⟨rfl, hb6⟩
theorem windowsOf_walk (c : Cf) (x0 x1 x2 x3 s : Int) (w : World) (hw : Laid2 w) (hr : CfRaw w c) :
    Calls Tryd.prog 3 #[.agg #[.int .i64 c.N, .slice c.pA c.pn c.pc, .slice c.sA c.sn c.sc, .int .i64 c.L, .slice c.bA c.bn c.bc, .slice c.tA c.tn c.tc, .int .i64 c.M, .int .i64 c.G, .int .i64 c.F], .agg #[.int .i64 x0, .int .i64 x1, .int .i64 x2, .int .i64 x3], .int .u8 s] w fun e w' => e = .returned (.bool true) ∧ Below w.heap.size w w' := by
  rcases raw_cases hr with hn | ⟨hc, hg, h0⟩
  · exact windowsOf_none c x0 x1 x2 x3 s w hw hn
  · have hd : 0 ≤ IntKind.u8.wrap x0 ∧ IntKind.u8.wrap x0 ≤ 255 := by rw [IntKind.wrap_u8]; omega
    obtain ⟨b, hb⟩ : ∃ b, opB (ofW c.N c.P (IntKind.u8.wrap x0) x1 x2) x3 = b := ⟨_, rfl⟩
    cases b
    · exact windowsOf_false c x0 x1 x2 x3 s _ rfl hd.1 hd.2 _ rfl hb w hw hc hg h0
    · exact windowsOf_true c x0 x1 x2 x3 s _ rfl hd.1 hd.2 _ rfl hb w hw hc hg h0
end Go.Proofs.YtajkpbmjgncbbaaDoor

