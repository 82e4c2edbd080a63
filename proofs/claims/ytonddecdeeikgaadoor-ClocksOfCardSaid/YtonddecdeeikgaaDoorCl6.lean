/-
  The contract of a clock's Tick at the tick behind a slot's last place. Conditions: the clock's reading; the scale's numbers are within their bounds.
-/
import Derived.Test.YtonddecdeeikgaaDoorCl5
namespace Go.Proofs.YtonddecdeeikgaaDoor
open Go.RowKit Cl
set_option linter.unusedVariables false

set_option maxRecDepth 100000 in
set_option maxHeartbeats 4000000 in
theorem tick_last_yes (g : Nat) (s L : Int) (t : Tm) (a : Int) (sure : Bool) (w : World) (hC : Clk w g s L 2 t) (hs : Sc s L) (h0 : 0 ≤ t.p) (h1 : ¬ t.p + 1 < L) (h2 : t.p ≤ 4096) (hb : begB s L a sure = true) (X : Tm) (hX : timeM s L a = X) (ha : 0 ≤ a) (ha' : a ≤ 1099511627776) :
    Calls Tryd.prog 18 #[.pointer (some ⟨g, 0, none⟩), .int .i64 a, .bool sure] w fun e w' => e = .returned (.tuple #[.agg #[.int .i64 X.r, .int .i64 X.k, .int .i64 X.p], .bool true]) ∧ Clk w' g s L 2 X ∧ But g w w' := by
  have hlt := Blk.lt hC
  have hC1 := Blk.alloc hC (.cells #[.int .i64 0, .int .i64 0, .int .i64 0] 27)
  have hZ1 := Blk.new w 27 #[.int .i64 0, .int .i64 0, .int .i64 0]
  have hK1 : But g w (w.alloc (.cells #[.int .i64 0, .int .i64 0, .int .i64 0] 27)) := But.grow (Nat.le_of_lt hlt) (below_al (Below.refl _ _) _)
  have HSC := Lib.hid hs
  have HB := Lib.hid hb
  have hwr : IntKind.i64.wrap (t.p + 1) = t.p + 1 := IntWalk.i64_in _ (by omega)
  have hdl : decide (t.p + 1 < L) = false := decide_eq_false h1
  have HCX := Lib.hid (show Clk (((((w.setCell ⟨g, 2, none⟩ (.int .i64 1)).setCell ⟨g, 3, none⟩ (.int .i64 0)).setCell ⟨g, 4, none⟩ (.int .i64 0)).setCell ⟨g, 5, none⟩ (.int .i64 0)).alloc (.cells #[.int .i64 0, .int .i64 0, .int .i64 0] 27)).drew g s L 1 Tm.zero from (Blk.alloc (Clk.put hC 1 Tm.zero) _))
  have HZX := Lib.hid (show Blk (((((w.setCell ⟨g, 2, none⟩ (.int .i64 1)).setCell ⟨g, 3, none⟩ (.int .i64 0)).setCell ⟨g, 4, none⟩ (.int .i64 0)).setCell ⟨g, 5, none⟩ (.int .i64 0)).alloc (.cells #[.int .i64 0, .int .i64 0, .int .i64 0] 27)).drew w.heap.size 27 #[.int .i64 0, .int .i64 0, .int .i64 0] from (by have h := Blk.new ((((w.setCell ⟨g, 2, none⟩ (.int .i64 1)).setCell ⟨g, 3, none⟩ (.int .i64 0)).setCell ⟨g, 4, none⟩ (.int .i64 0)).setCell ⟨g, 5, none⟩ (.int .i64 0)) 27 #[.int .i64 0, .int .i64 0, .int .i64 0]; simp at h; exact h))
  have HKX := Lib.hid (show But g w (((((w.setCell ⟨g, 2, none⟩ (.int .i64 1)).setCell ⟨g, 3, none⟩ (.int .i64 0)).setCell ⟨g, 4, none⟩ (.int .i64 0)).setCell ⟨g, 5, none⟩ (.int .i64 0)).alloc (.cells #[.int .i64 0, .int .i64 0, .int .i64 0] 27)).drew from (But.al hlt (But.put (.int .i64 1) (.int .i64 0) (.int .i64 0) (.int .i64 0)) _).drew)
  have HLX := Lib.hid (show g ≤ (((((w.setCell ⟨g, 2, none⟩ (.int .i64 1)).setCell ⟨g, 3, none⟩ (.int .i64 0)).setCell ⟨g, 4, none⟩ (.int .i64 0)).setCell ⟨g, 5, none⟩ (.int .i64 0)).alloc (.cells #[.int .i64 0, .int .i64 0, .int .i64 0] 27)).drew.heap.size from Nat.le_of_lt (Blk.lt HCX.out))
  have HX := Lib.hid hX
  have HA := Lib.hid ha
  have HA2 := Lib.hid ha'
  clear hX ha ha'
  clear hb hs
  have d0 := hC.cell 0
  have d1 := hC.cell 1
  have d2 := hC.cell 2
  have d3 := hC.cell 3
  have d4 := hC.cell 4
  have d5 := hC.cell 5
  have dl := hC.lt
  simp only [List.getElem?_toArray, List.getElem?_cons_zero, List.getElem?_cons_succ] at d0 d1 d2 d3 d4 d5
  have e0 := hC.frozen 0
  have e1 := hC.frozen 1
  have e2 := hC.frozen 2
  have e3 := hC.frozen 3
  have e4 := hC.frozen 4
  have e5 := hC.frozen 5
  have c0 := hC1.cell 0
  have c1 := hC1.cell 1
  have c2 := hC1.cell 2
  have c3 := hC1.cell 3
  have c4 := hC1.cell 4
  have c5 := hC1.cell 5
  have cl := hC1.lt
  simp only [List.getElem?_toArray, List.getElem?_cons_zero, List.getElem?_cons_succ] at c0 c1 c2 c3 c4 c5
  have f0 := hC1.frozen 0
  have f1 := hC1.frozen 1
  have f2 := hC1.frozen 2
  have f3 := hC1.frozen 3
  have f4 := hC1.frozen 4
  have f5 := hC1.frozen 5
  go_enter Tryd.func18, Tryd.ntmps18
  go_wp2_with fail
  go_region
  go_wp2_with (first
    | (go_at_call 31; (with_reducible refine (may_is g s L 1 Tm.zero a sure true HB.out (((((w.setCell ⟨g, 2, none⟩ (.int .i64 1)).setCell ⟨g, 3, none⟩ (.int .i64 0)).setCell ⟨g, 4, none⟩ (.int .i64 0)).setCell ⟨g, 5, none⟩ (.int .i64 0)).alloc (.cells #[.int .i64 0, .int .i64 0, .int .i64 0] 27)).drew HCX.out HSC.out).mono ?_); rintro e w2 ⟨rfl, b2⟩; have hC2 := Blk.on (w := (((((w.setCell ⟨g, 2, none⟩ (.int .i64 1)).setCell ⟨g, 3, none⟩ (.int .i64 0)).setCell ⟨g, 4, none⟩ (.int .i64 0)).setCell ⟨g, 5, none⟩ (.int .i64 0)).alloc (.cells #[.int .i64 0, .int .i64 0, .int .i64 0] 27)).drew) HCX.out b2; have hZ2 := Blk.on (w := (((((w.setCell ⟨g, 2, none⟩ (.int .i64 1)).setCell ⟨g, 3, none⟩ (.int .i64 0)).setCell ⟨g, 4, none⟩ (.int .i64 0)).setCell ⟨g, 5, none⟩ (.int .i64 0)).alloc (.cells #[.int .i64 0, .int .i64 0, .int .i64 0] 27)).drew) HZX.out b2; have hK2 := HKX.out.trans (But.grow HLX.out b2); clear c0 c1 c2 c3 c4 c5 cl f0 f1 f2 f3 f4 f5 b2; clear d0 d1 d2 d3 d4 d5 dl e0 e1 e2 e3 e4 e5; have c0 := hC2.cell 0; have c1 := hC2.cell 1; have c2 := hC2.cell 2; have c3 := hC2.cell 3; have c4 := hC2.cell 4; have c5 := hC2.cell 5; have cl := hC2.lt; simp only [List.getElem?_toArray, List.getElem?_cons_zero, List.getElem?_cons_succ] at c0 c1 c2 c3 c4 c5; have f0 := hC2.frozen 0; have f1 := hC2.frozen 1; have f2 := hC2.frozen 2; have f3 := hC2.frozen 3; have f4 := hC2.frozen 4; have f5 := hC2.frozen 5)
    | (go_at_call 26; (with_reducible refine (scTime_is s L a X HX.out _ HSC.out HA.out HA2.out).mono ?_); rintro e w3 ⟨rfl, b3⟩; have hC3 := Blk.on hC2 b3; have hZ3 := Blk.on hZ2 b3; have hK3 := hK2.trans (But.grow (Nat.le_of_lt (Blk.lt hC2)) b3); clear c0 c1 c2 c3 c4 c5 cl f0 f1 f2 f3 f4 f5 b3; have c0 := hC3.cell 0; have c1 := hC3.cell 1; have c2 := hC3.cell 2; have c3 := hC3.cell 3; have c4 := hC3.cell 4; have c5 := hC3.cell 5; have cl := hC3.lt; simp only [List.getElem?_toArray, List.getElem?_cons_zero, List.getElem?_cons_succ] at c0 c1 c2 c3 c4 c5; have f0 := hC3.frozen 0; have f1 := hC3.frozen 1; have f2 := hC3.frozen 2; have f3 := hC3.frozen 3; have f4 := hC3.frozen 4; have f5 := hC3.frozen 5))
  refine wp_at (fun U => Clk U g s L 2 X ∧ Blk U w.heap.size 27 #[.int .i64 0, .int .i64 0, .int .i64 0] ∧ But g w U) ⟨?_, ?_, ?_⟩ ?_
  · exact Clk.put hC3 2 X
  · exact hZ3.put (Nat.ne_of_gt hlt) _ _ _ _
  · exact hK3.trans (But.put _ _ _ _)
  rintro U ⟨hCU, hZU, hKU⟩
  clear c0 c1 c2 c3 c4 c5 cl f0 f1 f2 f3 f4 f5
  have hCV := hCU
  have c0 := hCV.cell 0
  have c1 := hCV.cell 1
  have c2 := hCV.cell 2
  have c3 := hCV.cell 3
  have c4 := hCV.cell 4
  have c5 := hCV.cell 5
  have cl := hCV.lt
  simp only [List.getElem?_toArray, List.getElem?_cons_zero, List.getElem?_cons_succ] at c0 c1 c2 c3 c4 c5
  have z0 := hZU.cell 0
  have z1 := hZU.cell 1
  have z2 := hZU.cell 2
  have zl := hZU.lt
  simp only [List.getElem?_toArray, List.getElem?_cons_zero, List.getElem?_cons_succ] at z0 z1 z2
  have f0 := hZU.frozen 0
  have f1 := hZU.frozen 1
  have f2 := hZU.frozen 2
  have hgz : g ≠ w.heap.size := Nat.ne_of_lt hlt
  go_region
  all_goals (go_wp2_with fail)
  all_goals (
    obtain ⟨x0, x1, x2⟩ := blk_three hZU (.int .i64 X.r) (.int .i64 X.k) (.int .i64 X.p)
    refine bodyPost_ret (v := .tuple #[.agg #[.int .i64 X.r, .int .i64 X.k, .int .i64 X.p], .bool true]) (by simp [results, Tryd.results18, go_sem, x0, x1, x2]) rfl ⟨rfl, ?_, ?_⟩
    · exact Blk.far3 hCU hgz
    · exact (But.late hKU (Nat.le_refl _) hlt _ _ _).drew)
set_option maxRecDepth 100000 in
set_option maxHeartbeats 4000000 in
theorem tick_last_no (g : Nat) (s L : Int) (t : Tm) (a : Int) (sure : Bool) (w : World) (hC : Clk w g s L 2 t) (hs : Sc s L) (h0 : 0 ≤ t.p) (h1 : ¬ t.p + 1 < L) (h2 : t.p ≤ 4096) (hb : begB s L a sure = false) :
    Calls Tryd.prog 18 #[.pointer (some ⟨g, 0, none⟩), .int .i64 a, .bool sure] w fun e w' => e = .returned (.tuple #[.agg #[.int .i64 0, .int .i64 0, .int .i64 0], .bool false]) ∧ Clk w' g s L 1 Tm.zero ∧ But g w w' := by
  have hlt := Blk.lt hC
  have hC1 := Blk.alloc hC (.cells #[.int .i64 0, .int .i64 0, .int .i64 0] 27)
  have hZ1 := Blk.new w 27 #[.int .i64 0, .int .i64 0, .int .i64 0]
  have hK1 : But g w (w.alloc (.cells #[.int .i64 0, .int .i64 0, .int .i64 0] 27)) := But.grow (Nat.le_of_lt hlt) (below_al (Below.refl _ _) _)
  have HSC := Lib.hid hs
  have HB := Lib.hid hb
  have hwr : IntKind.i64.wrap (t.p + 1) = t.p + 1 := IntWalk.i64_in _ (by omega)
  have hdl : decide (t.p + 1 < L) = false := decide_eq_false h1
  have HCX := Lib.hid (show Clk (((((w.setCell ⟨g, 2, none⟩ (.int .i64 1)).setCell ⟨g, 3, none⟩ (.int .i64 0)).setCell ⟨g, 4, none⟩ (.int .i64 0)).setCell ⟨g, 5, none⟩ (.int .i64 0)).alloc (.cells #[.int .i64 0, .int .i64 0, .int .i64 0] 27)).drew g s L 1 Tm.zero from (Blk.alloc (Clk.put hC 1 Tm.zero) _))
  have HZX := Lib.hid (show Blk (((((w.setCell ⟨g, 2, none⟩ (.int .i64 1)).setCell ⟨g, 3, none⟩ (.int .i64 0)).setCell ⟨g, 4, none⟩ (.int .i64 0)).setCell ⟨g, 5, none⟩ (.int .i64 0)).alloc (.cells #[.int .i64 0, .int .i64 0, .int .i64 0] 27)).drew w.heap.size 27 #[.int .i64 0, .int .i64 0, .int .i64 0] from (by have h := Blk.new ((((w.setCell ⟨g, 2, none⟩ (.int .i64 1)).setCell ⟨g, 3, none⟩ (.int .i64 0)).setCell ⟨g, 4, none⟩ (.int .i64 0)).setCell ⟨g, 5, none⟩ (.int .i64 0)) 27 #[.int .i64 0, .int .i64 0, .int .i64 0]; simp at h; exact h))
  have HKX := Lib.hid (show But g w (((((w.setCell ⟨g, 2, none⟩ (.int .i64 1)).setCell ⟨g, 3, none⟩ (.int .i64 0)).setCell ⟨g, 4, none⟩ (.int .i64 0)).setCell ⟨g, 5, none⟩ (.int .i64 0)).alloc (.cells #[.int .i64 0, .int .i64 0, .int .i64 0] 27)).drew from (But.al hlt (But.put (.int .i64 1) (.int .i64 0) (.int .i64 0) (.int .i64 0)) _).drew)
  have HLX := Lib.hid (show g ≤ (((((w.setCell ⟨g, 2, none⟩ (.int .i64 1)).setCell ⟨g, 3, none⟩ (.int .i64 0)).setCell ⟨g, 4, none⟩ (.int .i64 0)).setCell ⟨g, 5, none⟩ (.int .i64 0)).alloc (.cells #[.int .i64 0, .int .i64 0, .int .i64 0] 27)).drew.heap.size from Nat.le_of_lt (Blk.lt HCX.out))
  clear hb hs
  have d0 := hC.cell 0
  have d1 := hC.cell 1
  have d2 := hC.cell 2
  have d3 := hC.cell 3
  have d4 := hC.cell 4
  have d5 := hC.cell 5
  have dl := hC.lt
  simp only [List.getElem?_toArray, List.getElem?_cons_zero, List.getElem?_cons_succ] at d0 d1 d2 d3 d4 d5
  have e0 := hC.frozen 0
  have e1 := hC.frozen 1
  have e2 := hC.frozen 2
  have e3 := hC.frozen 3
  have e4 := hC.frozen 4
  have e5 := hC.frozen 5
  have c0 := hC1.cell 0
  have c1 := hC1.cell 1
  have c2 := hC1.cell 2
  have c3 := hC1.cell 3
  have c4 := hC1.cell 4
  have c5 := hC1.cell 5
  have cl := hC1.lt
  simp only [List.getElem?_toArray, List.getElem?_cons_zero, List.getElem?_cons_succ] at c0 c1 c2 c3 c4 c5
  have f0 := hC1.frozen 0
  have f1 := hC1.frozen 1
  have f2 := hC1.frozen 2
  have f3 := hC1.frozen 3
  have f4 := hC1.frozen 4
  have f5 := hC1.frozen 5
  go_enter Tryd.func18, Tryd.ntmps18
  go_wp2_with fail
  go_region
  go_wp2_with (go_at_call 31; (with_reducible refine (may_is g s L 1 Tm.zero a sure false HB.out (((((w.setCell ⟨g, 2, none⟩ (.int .i64 1)).setCell ⟨g, 3, none⟩ (.int .i64 0)).setCell ⟨g, 4, none⟩ (.int .i64 0)).setCell ⟨g, 5, none⟩ (.int .i64 0)).alloc (.cells #[.int .i64 0, .int .i64 0, .int .i64 0] 27)).drew HCX.out HSC.out).mono ?_); rintro e w2 ⟨rfl, b2⟩; have hC2 := Blk.on (w := (((((w.setCell ⟨g, 2, none⟩ (.int .i64 1)).setCell ⟨g, 3, none⟩ (.int .i64 0)).setCell ⟨g, 4, none⟩ (.int .i64 0)).setCell ⟨g, 5, none⟩ (.int .i64 0)).alloc (.cells #[.int .i64 0, .int .i64 0, .int .i64 0] 27)).drew) HCX.out b2; have hZ2 := Blk.on (w := (((((w.setCell ⟨g, 2, none⟩ (.int .i64 1)).setCell ⟨g, 3, none⟩ (.int .i64 0)).setCell ⟨g, 4, none⟩ (.int .i64 0)).setCell ⟨g, 5, none⟩ (.int .i64 0)).alloc (.cells #[.int .i64 0, .int .i64 0, .int .i64 0] 27)).drew) HZX.out b2; have hK2 := HKX.out.trans (But.grow HLX.out b2); clear c0 c1 c2 c3 c4 c5 cl f0 f1 f2 f3 f4 f5 b2; clear d0 d1 d2 d3 d4 d5 dl e0 e1 e2 e3 e4 e5)
  refine wp_at (fun U => Clk U g s L 1 Tm.zero ∧ Blk U w.heap.size 27 #[.int .i64 0, .int .i64 0, .int .i64 0] ∧ But g w U) ⟨?_, ?_, ?_⟩ ?_
  · exact hC2
  · exact hZ2
  · exact hK2
  rintro U ⟨hCU, hZU, hKU⟩
  have hCV : Blk U g 53 #[.int .i64 s, .int .i64 L, .int .i64 1, .int .i64 0, .int .i64 0, .int .i64 0] := hCU
  have c0 := hCV.cell 0
  have c1 := hCV.cell 1
  have c2 := hCV.cell 2
  have c3 := hCV.cell 3
  have c4 := hCV.cell 4
  have c5 := hCV.cell 5
  have cl := hCV.lt
  simp only [List.getElem?_toArray, List.getElem?_cons_zero, List.getElem?_cons_succ] at c0 c1 c2 c3 c4 c5
  have z0 := hZU.cell 0
  have z1 := hZU.cell 1
  have z2 := hZU.cell 2
  have zl := hZU.lt
  simp only [List.getElem?_toArray, List.getElem?_cons_zero, List.getElem?_cons_succ] at z0 z1 z2
  have f0 := hZU.frozen 0
  have f1 := hZU.frozen 1
  have f2 := hZU.frozen 2
  have hgz : g ≠ w.heap.size := Nat.ne_of_lt hlt
  go_region
  all_goals (go_wp2_with fail)
  all_goals (
    obtain ⟨x0, x1, x2⟩ := blk_three hZU (.int .i64 0) (.int .i64 0) (.int .i64 0)
    refine bodyPost_ret (v := .tuple #[.agg #[.int .i64 0, .int .i64 0, .int .i64 0], .bool false]) (by simp [results, Tryd.results18, go_sem, x0, x1, x2]) rfl ⟨rfl, ?_, ?_⟩
    · exact Blk.far3 hCU hgz
    · exact (But.late hKU (Nat.le_refl _) hlt _ _ _).drew)
end Go.Proofs.YtonddecdeeikgaaDoor
