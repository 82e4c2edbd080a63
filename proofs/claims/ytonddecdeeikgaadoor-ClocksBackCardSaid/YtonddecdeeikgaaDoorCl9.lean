/-
  A net by its scale, and the contracts of the law's Net and lives. Conditions: the config's reading; the table of directions is as the program's text lays it.
-/
import Derived.Test.YtonddecdeeikgaaDoorCl8
import Derived.Test.YtonddecdeeikgaaDoorCfR
namespace Go.Proofs.YtonddecdeeikgaaDoor
open Go.RowKit Cl Rg
set_option linter.unusedVariables false

/-- The pointer v is a net of so many slots of so many ticks. -/
def NetS (w : World) (v : Value) (s L : Int) : Prop := ∃ c : Cf, NetIs w v c ∧ (c.sn : Int) = s ∧ c.L = L ∧ Sc s L
theorem NetS.on {w w' : World} {v : Value} {s L : Int} (h : NetS w v s L) (hb : Below w.heap.size w w') : NetS w' v s L := by
  obtain ⟨c, h1, h2⟩ := h
  exact ⟨c, h1.on hb, h2⟩
theorem NetS.sc {w : World} {v : Value} {s L : Int} (h : NetS w v s L) : Sc s L := by
  obtain ⟨c, h1, h2, h3, h4⟩ := h
  exact h4
theorem nOf_is (v : Value) (s L a : Int) (X : Tm) (hX : ofT s L a = X) (E : Int) (hE : ofE a = E) (w : World) (hn : NetS w v s L) :
    Calls Tryd.prog 10 #[v, .int .i64 a] w fun e w' => e = .returned (.tuple #[.agg #[.int .i64 X.r, .int .i64 X.k, .int .i64 X.p], .int .i64 E]) ∧ Below w.heap.size w w' := by
  obtain ⟨c, h1, rfl, rfl, h4⟩ := hn
  exact clkOf_is v c a X hX E hE w h1 h4
theorem nAge_is (v : Value) (s L : Int) (t : Tm) (a : Int) (ha : agA s L t = a) (E : Int) (hE : agE s L t = E) (w : World) (hn : NetS w v s L) :
    Calls Tryd.prog 12 #[v, .agg #[.int .i64 t.r, .int .i64 t.k, .int .i64 t.p]] w fun e w' => e = .returned (.tuple #[.int .i64 a, .int .i64 E]) ∧ Below w.heap.size w w' := by
  obtain ⟨c, h1, rfl, rfl, h4⟩ := hn
  exact clkAge_is v c t a ha E hE w h1 h4
theorem nAhead_is (v : Value) (s L : Int) (t : Tm) (y : Int) (hy : ahA s L t = y) (w : World) (hn : NetS w v s L) :
    Calls Tryd.prog 15 #[v, .agg #[.int .i64 t.r, .int .i64 t.k, .int .i64 t.p]] w fun e w' => e = .returned (.int .i64 y) ∧ Below w.heap.size w w' := by
  obtain ⟨c, h1, rfl, rfl, h4⟩ := hn
  exact clkAhead_is v c t y hy w h1 h4
theorem nNew (v : Value) (s L : Int) (w : World) (hn : NetS w v s L) :
    Calls Tryd.prog 17 #[v] w fun e w' => ∃ g, e = .returned (.pointer (some ⟨g, 0, none⟩)) ∧ w.heap.size ≤ g ∧ ClkO w' g s L none ∧ Below w.heap.size w w' := by
  obtain ⟨c, h1, rfl, rfl, h4⟩ := hn
  exact clkNew_yes v c w h1 h4
theorem ClkO.al {w : World} {g : Nat} {s L : Int} {o : Option Tm} (h : ClkO w g s L o) (ob : Obj) : ClkO (w.alloc ob) g s L o := Blk.alloc h ob
theorem ClkO.on {w w' : World} {g : Nat} {s L : Int} {o : Option Tm} (h : ClkO w g s L o) (hb : Below w.heap.size w w') : ClkO w' g s L o := Blk.on h hb
theorem ClkO.lt {w : World} {g : Nat} {s L : Int} {o : Option Tm} (h : ClkO w g s L o) : g < w.heap.size := Blk.lt h
theorem okO_none (s L : Int) : OkO s L none := fun _ h => by cases h
theorem cf_sc {c : Cf} (h : newE c = 0) : Sc c.sn c.L := by
  have ok := newE_ok.1 h
  have h1 := ok.slots
  have h2 := ok.long
  have h3 := ok.nodes
  exact ⟨by omega, by omega, by omega, by omega⟩

theorem lawNet_great (c : Cf) (w : World) (hg : greatB c = true) :
    Calls Tryd.prog 8 #[.agg #[.int .i64 c.N, .slice c.pA c.pn c.pc, .slice c.sA c.sn c.sc, .int .i64 c.L, .slice c.bA c.bn c.bc, .slice c.tA c.tn c.tc, .int .i64 c.M, .int .i64 c.G, .int .i64 c.F]] w fun e w' => e = .returned (.pointer none) ∧ Below w.heap.size w w' := by
  have HG := Lib.hid hg
  clear hg
  go_enter Tryd.func8, Tryd.ntmps8
  go_wp2_with (go_at_call 20; (with_reducible refine (great_is c true HG.out _).mono ?_); rintro e w1 ⟨rfl, b1⟩)
  go_ret
  exact ⟨rfl, below_then (below_al (Below.refl _ _) _) b1⟩
theorem refNew_is (c : Cf) (r : Int) (hr : newE c = r) (w : World) (hc : CfIn w c) :
    Calls Tryd.prog 21 #[.agg #[.int .i64 c.N, .slice c.pA c.pn c.pc, .slice c.sA c.sn c.sc, .int .i64 c.L, .slice c.bA c.bn c.bc, .slice c.tA c.tn c.tc, .int .i64 c.M, .int .i64 c.G, .int .i64 c.F]] w fun e w' => e = .returned (.int .i64 r) ∧ Below w.heap.size w w' := by
  subst hr; exact refNew_any c w hc
theorem lawNet_bad (c : Cf) (w : World) (hc : CfIn w c) (hg : greatB c = false) (h0 : newE c ≠ 0) :
    Calls Tryd.prog 8 #[.agg #[.int .i64 c.N, .slice c.pA c.pn c.pc, .slice c.sA c.sn c.sc, .int .i64 c.L, .slice c.bA c.bn c.bc, .slice c.tA c.tn c.tc, .int .i64 c.M, .int .i64 c.G, .int .i64 c.F]] w fun e w' => e = .returned (.pointer none) ∧ Below w.heap.size w w' := by
  have HG := Lib.hid hg
  obtain ⟨r, hr⟩ : ∃ r, r = newE c := ⟨_, rfl⟩
  rw [← hr] at h0
  have HR := Lib.hid hr.symm
  have e1 := beq_eq_false_iff_ne.2 h0
  clear hg hr h0
  go_enter Tryd.func8, Tryd.ntmps8
  go_wp2_with (first
    | (go_at_call 20; (with_reducible refine (great_is c false HG.out _).mono ?_); rintro e w1 ⟨rfl, b1⟩; obtain ⟨k0, k1, k2, k3, k4, k5, k6, k7, k8⟩ := ((Blk.new w _ _).on b1).cf)
    | (go_at_call 21; (with_reducible refine (refNew_is c r HR.out w1 ((hc.al _).on b1)).mono ?_); rintro e w2 ⟨rfl, b2⟩))
  go_ret
  exact ⟨rfl, below_then (below_then (below_al (Below.refl _ w) _) b1) b2⟩
theorem lawNet_yes (c : Cf) (w : World) (hw : Ways w) (hc : CfIn w c) (hg : greatB c = false) (h0 : newE c = 0) :
    Calls Tryd.prog 8 #[.agg #[.int .i64 c.N, .slice c.pA c.pn c.pc, .slice c.sA c.sn c.sc, .int .i64 c.L, .slice c.bA c.bn c.bc, .slice c.tA c.tn c.tc, .int .i64 c.M, .int .i64 c.G, .int .i64 c.F]] w fun e w' => ∃ g, e = .returned (.pointer (some ⟨g, 0, none⟩)) ∧ NetS w' (.pointer (some ⟨g, 0, none⟩)) c.sn c.L ∧ Below w.heap.size w w' := by
  have HG := Lib.hid hg
  have HR := Lib.hid h0
  clear hg h0
  go_enter Tryd.func8, Tryd.ntmps8
  go_wp2_with (first
    | (go_at_call 20; (with_reducible refine (great_is c false HG.out _).mono ?_); rintro e w1 ⟨rfl, b1⟩; have hB1 : Blk w1 w.heap.size 25 #[.int .i64 c.N, .slice c.pA c.pn c.pc, .slice c.sA c.sn c.sc, .int .i64 c.L, .slice c.bA c.bn c.bc, .slice c.tA c.tn c.tc, .int .i64 c.M, .int .i64 c.G, .int .i64 c.F] := (Blk.new w _ _).on b1; obtain ⟨k0, k1, k2, k3, k4, k5, k6, k7, k8⟩ := hB1.cf; have hB := below_then (below_al (Below.refl _ w) (.cells #[.int .i64 c.N, .slice c.pA c.pn c.pc, .slice c.sA c.sn c.sc, .int .i64 c.L, .slice c.bA c.bn c.bc, .slice c.tA c.tn c.tc, .int .i64 c.M, .int .i64 c.G, .int .i64 c.F] 25)) b1)
    | (go_at_call 21; (with_reducible refine (refNew_is c 0 HR.out w1 (hc.on hB)).mono ?_); rintro e w2 ⟨rfl, b2⟩; clear k0 k1 k2 k3 k4 k5 k6 k7 k8; obtain ⟨k0, k1, k2, k3, k4, k5, k6, k7, k8⟩ := (hB1.on b2).cf; have hB2 := below_then hB b2)
    | (go_at_call 22; (with_reducible refine (new_yes c w2 (hc.on hB2) (hw.on hB2) HR.out).mono ?_); rintro e w3 ⟨g, A1, A2, A3, A4, rfl, -, hN, -, b3⟩; have hB3 := below_then hB2 b3))
  go_ret
  exact ⟨g, rfl, ⟨_, hN, rfl, rfl, cf_sc HR.out⟩, hB3⟩

theorem ex_of : ofT 3 120 500 = ⟨1, 1, 20⟩ := rfl
theorem ex_ofE : ofE 500 = 0 := rfl
theorem ex_t1 : tickO 3 120 none 119 true = none := rfl
theorem ex_t2 : tickO 3 120 none 120 true = some ⟨0, 1, 0⟩ := rfl
theorem ex_t3 : tickO 3 120 (some ⟨0, 1, 0⟩) 7 false = some ⟨0, 1, 1⟩ := rfl
theorem ex_ah : ahA 3 120 ⟨1, 1, 20⟩ = 4 := rfl
theorem ex_sc : Sc 3 120 := ⟨by omega, by omega, by omega, by omega⟩
theorem ex_ok : OkO 3 120 (some ⟨0, 1, 0⟩) := fun t h => by cases h; exact ⟨by simp only; omega, by simp only; omega, by simp only; omega, by simp only; omega, by simp only; omega, by simp only; omega⟩
set_option maxRecDepth 100000 in
set_option maxHeartbeats 4000000 in
theorem lives_clk (w : World) (hw : Ways w) :
    Calls Tryd.prog 9 #[] w fun e w' => e = .returned (.bool true) ∧ Below w.heap.size w w' := by
  have hB0 : Below w.heap.size w (((w.alloc (.cells #[.int .i64 0, .int .i64 2] 3)).alloc (.cells #[.int .i64 0, .int .i64 1, .int .i64 1] 3)).alloc (.cells #[.int .i64 0, .int .i64 0, .int .i64 0, .int .i64 0] 3)) := below_al (below_al (below_al (Below.refl _ _) _) _) _
  have l1 := ((Lies.new w 3 .i64 [0, 2] 2 rfl #[.int .i64 0, .int .i64 2] rfl).al (.cells #[.int .i64 0, .int .i64 1, .int .i64 1] 3)).al (.cells #[.int .i64 0, .int .i64 0, .int .i64 0, .int .i64 0] 3)
  have l2 := (Lies.new (w.alloc (.cells #[.int .i64 0, .int .i64 2] 3)) 3 .i64 [0, 1, 1] 3 rfl #[.int .i64 0, .int .i64 1, .int .i64 1] rfl).al (.cells #[.int .i64 0, .int .i64 0, .int .i64 0, .int .i64 0] 3)
  have l3 := Lies.new ((w.alloc (.cells #[.int .i64 0, .int .i64 2] 3)).alloc (.cells #[.int .i64 0, .int .i64 1, .int .i64 1] 3)) 3 .i64 [0, 0, 0, 0] 4 rfl #[.int .i64 0, .int .i64 0, .int .i64 0, .int .i64 0] rfl
  simp only [alloc_size] at l1 l2 l3
  have HCF := Lib.hid (show CfIn (((w.alloc (.cells #[.int .i64 0, .int .i64 2] 3)).alloc (.cells #[.int .i64 0, .int .i64 1, .int .i64 1] 3)).alloc (.cells #[.int .i64 0, .int .i64 0, .int .i64 0, .int .i64 0] 3)) (smallCf (some ⟨w.heap.size, 0, none⟩) (some ⟨w.heap.size + 1, 0, none⟩) (some ⟨w.heap.size + 1 + 1, 0, none⟩)) from ⟨by simpa only [alloc_size] using l1, by simpa only [alloc_size] using l2, by simpa only [alloc_size] using l3, LiesT.nil_, by simp⟩)
  have HW := Lib.hid (hw.on hB0)
  have HB0 := Lib.hid hB0
  have HOK := Lib.hid (small_ok (some ⟨w.heap.size, 0, none⟩) (some ⟨w.heap.size + 1, 0, none⟩) (some ⟨w.heap.size + 1 + 1, 0, none⟩))
  have q1 := tm_eql 1 1 20 1 1 20
  have q2 := tm_eql 0 1 0 0 1 0
  have q3 := tm_eql 0 1 1 0 1 1
  clear hw hB0 l1 l2 l3
  go_enter Tryd.func9, Tryd.ntmps9
  go_wp2_with (first
    | (go_at_call 22; (with_reducible refine (new_yes (smallCf (some ⟨w.heap.size, 0, none⟩) (some ⟨w.heap.size + 1, 0, none⟩) (some ⟨w.heap.size + 1 + 1, 0, none⟩)) (((w.alloc (.cells #[.int .i64 0, .int .i64 2] 3)).alloc (.cells #[.int .i64 0, .int .i64 1, .int .i64 1] 3)).alloc (.cells #[.int .i64 0, .int .i64 0, .int .i64 0, .int .i64 0] 3)) HCF.out HW.out HOK.out).mono ?_); rintro e w1 ⟨gN, N1, N2, N3, N4, rfl, -, hN0, -, b1⟩; have hN : NetS w1 (.pointer (some ⟨gN, 0, none⟩)) 3 120 := ⟨_, hN0, rfl, rfl, ex_sc⟩; have hB1 := below_then HB0.out b1; clear b1 hN0 HCF HW HOK)
    | (go_at_call 10; (with_reducible refine (nOf_is _ 3 120 500 ⟨1, 1, 20⟩ ex_of 0 ex_ofE w1 hN).mono ?_); rintro e w2 ⟨rfl, b2⟩; have hN2 := hN.on (below_al b2 (.cells #[.int .i64 1, .int .i64 1, .int .i64 20] 27)); have hB2 := below_then hB1 (below_al b2 (.cells #[.int .i64 1, .int .i64 1, .int .i64 20] 27)); have hT2 := Blk.new w2 27 #[.int .i64 1, .int .i64 1, .int .i64 20]; clear hN hB1 b2)
    | (go_at_call 17; (with_reducible refine (nNew _ 3 120 _ hN2).mono ?_); rintro e w3 ⟨g, rfl, hg, hC3, b3⟩; have hT3 := hT2.on b3; have hB3 := below_then hB2 b3)
    | (go_at_call 18; (with_reducible refine (tick_is g 3 120 none 119 true ⟨0, 0, 0⟩ false none ex_t1 rfl rfl w3 hC3 ex_sc (okO_none _ _)).mono ?_); rintro e w4 ⟨rfl, hC4, b4⟩; have h4 := b3.trans (b4.1.mono hg); have hC4' := ClkO.al hC4 (.cells #[.int .i64 0, .int .i64 0, .int .i64 0] 27); have h4' := below_al h4 (.cells #[.int .i64 0, .int .i64 0, .int .i64 0] 27); clear hC3 b4 h4)
    | (go_at_call 18; (with_reducible refine (tick_is g 3 120 none 120 true ⟨0, 1, 0⟩ true (some ⟨0, 1, 0⟩) ex_t2 rfl rfl (w4.alloc (.cells #[.int .i64 0, .int .i64 0, .int .i64 0] 27)) hC4' ex_sc (okO_none _ _)).mono ?_); rintro e w5 ⟨rfl, hC5, b5⟩; have h5 := h4'.trans (b5.1.mono hg); have hC5' := ClkO.al hC5 (.cells #[.int .i64 0, .int .i64 1, .int .i64 0] 27); have h5' := below_al h5 (.cells #[.int .i64 0, .int .i64 1, .int .i64 0] 27); have hX5 := Blk.new w5 27 #[.int .i64 0, .int .i64 1, .int .i64 0]; have hgw := ClkO.lt hC5; clear hC4 hC4' b5 h4' h5)
    | (go_at_call 18; (with_reducible refine (tick_is g 3 120 (some ⟨0, 1, 0⟩) 7 false ⟨0, 1, 1⟩ true (some ⟨0, 1, 1⟩) ex_t3 rfl rfl (w5.alloc (.cells #[.int .i64 0, .int .i64 1, .int .i64 0] 27)) hC5' ex_sc ex_ok).mono ?_); rintro e w6 ⟨rfl, hC6, b6⟩; have h6 := h5'.trans (b6.1.mono hg); have hX6 := (b6.blk hX5 (by omega)).alloc (.cells #[.int .i64 0, .int .i64 1, .int .i64 1] 27); have hY6 := Blk.new w6 27 #[.int .i64 0, .int .i64 1, .int .i64 1]; have h6' := below_al h6 (.cells #[.int .i64 0, .int .i64 1, .int .i64 1] 27); have hT6 := hT2.on h6'; have hN6 := hN2.on h6'; have t0 := hT6.cell 0; have t1 := hT6.cell 1; have t2 := hT6.cell 2; have tl := hT6.lt; simp only [List.getElem?_toArray, List.getElem?_cons_zero, List.getElem?_cons_succ] at t0 t1 t2; clear hC5 hC5' h5' h6)
    | (go_at_call 15; (with_reducible refine (nAhead_is _ 3 120 ⟨1, 1, 20⟩ 4 ex_ah _ hN6).mono ?_); rintro e w7 ⟨rfl, b7⟩; have hX7 := hX6.on b7; have hY7 := hY6.on b7; have x0 := hX7.cell 0; have x1 := hX7.cell 1; have x2 := hX7.cell 2; have xl := hX7.lt; simp only [List.getElem?_toArray, List.getElem?_cons_zero, List.getElem?_cons_succ] at x0 x1 x2; have y0 := hY7.cell 0; have y1 := hY7.cell 1; have y2 := hY7.cell 2; have yl := hY7.lt; simp only [List.getElem?_toArray, List.getElem?_cons_zero, List.getElem?_cons_succ] at y0 y1 y2; have hB7 := below_then (below_then hB2 h6') b7))
  go_ret
  exact ⟨rfl, hB7⟩
end Go.Proofs.YtonddecdeeikgaaDoor
