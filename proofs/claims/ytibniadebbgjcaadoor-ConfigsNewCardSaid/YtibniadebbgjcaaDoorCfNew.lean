/-
  The law ConfigsNew, walked: of whatever config, whether there is a net, or what is wrong first, is the chapter's; it stays: true; nothing that was there has turned. Conditions: the config's reading; the table of directions is as the program's text lays it.
-/
import Derived.Test.YtibniadebbgjcaaDoorCfR
import Derived.Test.YtibniadebbgjcaaDoorCfRef3
import Derived.Test.YtibniadebbgjcaaDoorCfLt
namespace Go.Proofs.YtibniadebbgjcaaDoor
open Go.RowKit Rg

theorem refNew_is (c : Cf) (r : Int) (hr : newE c = r) (w : World) (hc : CfIn w c) :
    Calls Tryd.prog 13 #[.agg #[.int .i64 c.N, .slice c.pA c.pn c.pc, .slice c.sA c.sn c.sc, .int .i64 c.L, .slice c.bA c.bn c.bc, .slice c.tA c.tn c.tc, .int .i64 c.M, .int .i64 c.G, .int .i64 c.F]] w fun e w' => e = .returned (.int .i64 r) ∧ Below w.heap.size w w' := by
  subst hr; exact refNew_any c w hc
theorem tw_new (c : Cf) (g1 c1 g2 c2 g3 c3 g4 c4 : Nat) : newE (c.tw g1 c1 g2 c2 g3 c3 g4 c4) = newE c := rfl

set_option maxRecDepth 100000 in
theorem cfnew_great (c : Cf) (w : World) (hw : Ways w) (hg : greatB c = true) :
    Calls Tryd.prog 3 #[.agg #[.int .i64 c.N, .slice c.pA c.pn c.pc, .slice c.sA c.sn c.sc, .int .i64 c.L, .slice c.bA c.bn c.bc, .slice c.tA c.tn c.tc, .int .i64 c.M, .int .i64 c.G, .int .i64 c.F]] w fun e w' => e = .returned (.bool true) ∧ Below w.heap.size w w' := by
  have HG := Lib.hid hg
  clear hg
  go_enter Tryd.func3, Tryd.ntmps3
  go_wp2_with (first
    | (go_at_call 9; (with_reducible refine (great_is c true HG.out _).mono ?_); rintro e w1 ⟨rfl, b1⟩)
    | (go_at_call 10; (with_reducible refine (lives_any w1 ((hw.al _).on b1)).mono ?_); rintro e w2 ⟨rfl, b2⟩))
  go_ret
  exact ⟨rfl, below_then (below_then (below_al (Below.refl _ _) _) b1) b2⟩

set_option maxRecDepth 100000 in
set_option maxHeartbeats 1000000 in
theorem cfnew_no (c : Cf) (w : World) (hw : Ways w) (hc : CfIn w c) (hg : greatB c = false) (h0 : newE c ≠ 0) :
    Calls Tryd.prog 3 #[.agg #[.int .i64 c.N, .slice c.pA c.pn c.pc, .slice c.sA c.sn c.sc, .int .i64 c.L, .slice c.bA c.bn c.bc, .slice c.tA c.tn c.tc, .int .i64 c.M, .int .i64 c.G, .int .i64 c.F]] w fun e w' => e = .returned (.bool true) ∧ Below w.heap.size w w' := by
  have HG := Lib.hid hg
  have hfew := hc.few
  obtain ⟨r, hr⟩ : ∃ r, r = newE c := ⟨_, rfl⟩
  rw [← hr] at h0
  have HR := Lib.hid hr.symm
  have HR0 := Lib.hid h0
  have e1 := beq_eq_false_iff_ne.2 h0
  have e2 : (r != 0) = true := by simpa using h0
  clear hr h0
  clear hg
  go_enter Tryd.func3, Tryd.ntmps3
  go_wp2_with (first
    | (go_at_call 9; (with_reducible refine (great_is c false HG.out _).mono ?_); rintro e w1 ⟨rfl, b1⟩
       have hB1 : Blk w1 w.heap.size 25 #[.int .i64 c.N, .slice c.pA c.pn c.pc, .slice c.sA c.sn c.sc, .int .i64 c.L, .slice c.bA c.bn c.bc, .slice c.tA c.tn c.tc, .int .i64 c.M, .int .i64 c.G, .int .i64 c.F] := (Blk.new w _ _).on b1
       have B1 := below_then (below_al (Below.refl _ w) _) b1
       clear b1
       obtain ⟨k0, k1, k2, k3, k4, k5, k6, k7, k8⟩ := hB1.cf)
    | (go_at_call 11; (with_reducible refine (twinConfig_any c w1 (hc.on B1)).mono ?_); rintro e w2 ⟨g1, c1, g2, c2, g3, c3, g4, c4, rfl, hT2, b2⟩
       have B2 := below_then B1 b2
       have hB2 := hB1.on b2
       clear b2 B1 hB1 k0 k1 k2 k3 k4 k5 k6 k7 k8)
    | (go_at_call 12; (with_reducible refine (new_no_is (c.tw g1 c1 g2 c2 g3 c3 g4 c4) r ((tw_new c g1 c1 g2 c2 g3 c3 g4 c4).trans HR.out) _ ((hT2.al _).in_ hfew) (hw.on (below_al B2 _)) HR0.out).mono ?_); rintro e w3 ⟨rfl, b3⟩
       have B3 := below_then (below_al B2 _) b3
       have hB3 := (hB2.alloc _).on b3
       have hT3 := (hT2.on (below_al (Below.refl _ w2) _)).on b3
       have hV3 : Blk w3 w2.heap.size 25 #[.int .i64 c.N, .slice (some ⟨g1, 0, none⟩) c.pn c1, .slice (some ⟨g2, 0, none⟩) c.sn c2, .int .i64 c.L, .slice (some ⟨g3, 0, none⟩) c.bn c3, .slice (some ⟨g4, 0, none⟩) c.tn c4, .int .i64 c.M, .int .i64 c.G, .int .i64 c.F] := (Blk.new w2 _ _).on b3
       clear b3 B2 hB2 hT2
       obtain ⟨k0, k1, k2, k3, k4, k5, k6, k7, k8⟩ := hB3.cf)
    | (go_at_call 13; (with_reducible refine (refNew_is c r HR.out w3 (hc.on B3)).mono ?_); rintro e w4 ⟨rfl, b4⟩
       have B4 := below_then B3 b4
       have hT4 := hT3.on b4
       clear k0 k1 k2 k3 k4 k5 k6 k7 k8
       obtain ⟨k0, k1, k2, k3, k4, k5, k6, k7, k8⟩ := (hB3.on b4).cf
       obtain ⟨j0, j1, j2, j3, j4, j5, j6, j7, j8⟩ := Blk.cf (c := (c.tw g1 c1 g2 c2 g3 c3 g4 c4)) (hV3.on b4)
       clear b4)
    | (go_at_call 14; (with_reducible refine (leftConfig_true c _ g1 c1 g2 c2 g3 c3 g4 c4 w4 hT4 (hc.on B4)).mono ?_); rintro e w5 ⟨rfl, b5⟩
       have B5 := below_then B4 b5
       clear b5)
    | (go_at_call 10; (with_reducible refine (lives_any w5 (hw.on B5)).mono ?_); rintro e w6 ⟨rfl, b6⟩))
  go_ret
  exact ⟨rfl, below_then B5 b6⟩

set_option maxRecDepth 100000 in
set_option maxHeartbeats 1000000 in
theorem cfnew_yes (c : Cf) (w : World) (hw : Ways w) (hc : CfIn w c) (hg : greatB c = false) (h0 : newE c = 0) :
    Calls Tryd.prog 3 #[.agg #[.int .i64 c.N, .slice c.pA c.pn c.pc, .slice c.sA c.sn c.sc, .int .i64 c.L, .slice c.bA c.bn c.bc, .slice c.tA c.tn c.tc, .int .i64 c.M, .int .i64 c.G, .int .i64 c.F]] w fun e w' => e = .returned (.bool true) ∧ Below w.heap.size w w' := by
  have HG := Lib.hid hg
  have hfew := hc.few
  have HR := Lib.hid h0
  clear h0
  clear hg
  go_enter Tryd.func3, Tryd.ntmps3
  go_wp2_with (first
    | (go_at_call 9; (with_reducible refine (great_is c false HG.out _).mono ?_); rintro e w1 ⟨rfl, b1⟩
       have hB1 : Blk w1 w.heap.size 25 #[.int .i64 c.N, .slice c.pA c.pn c.pc, .slice c.sA c.sn c.sc, .int .i64 c.L, .slice c.bA c.bn c.bc, .slice c.tA c.tn c.tc, .int .i64 c.M, .int .i64 c.G, .int .i64 c.F] := (Blk.new w _ _).on b1
       have B1 := below_then (below_al (Below.refl _ w) _) b1
       clear b1
       obtain ⟨k0, k1, k2, k3, k4, k5, k6, k7, k8⟩ := hB1.cf)
    | (go_at_call 11; (with_reducible refine (twinConfig_any c w1 (hc.on B1)).mono ?_); rintro e w2 ⟨g1, c1, g2, c2, g3, c3, g4, c4, rfl, hT2, b2⟩
       have B2 := below_then B1 b2
       have hB2 := hB1.on b2
       clear b2 B1 hB1 k0 k1 k2 k3 k4 k5 k6 k7 k8)
    | (go_at_call 12; (with_reducible refine (new_yes (c.tw g1 c1 g2 c2 g3 c3 g4 c4) _ ((hT2.al _).in_ hfew) (hw.on (below_al B2 _)) ((tw_new c g1 c1 g2 c2 g3 c3 g4 c4).trans HR.out)).mono ?_); rintro e w3 ⟨gN, A1, A2, A3, A4, rfl, -, -, -, b3⟩
       have B3 := below_then (below_al B2 _) b3
       have hB3 := (hB2.alloc _).on b3
       have hT3 := (hT2.on (below_al (Below.refl _ w2) _)).on b3
       have hV3 : Blk w3 w2.heap.size 25 #[.int .i64 c.N, .slice (some ⟨g1, 0, none⟩) c.pn c1, .slice (some ⟨g2, 0, none⟩) c.sn c2, .int .i64 c.L, .slice (some ⟨g3, 0, none⟩) c.bn c3, .slice (some ⟨g4, 0, none⟩) c.tn c4, .int .i64 c.M, .int .i64 c.G, .int .i64 c.F] := (Blk.new w2 _ _).on b3
       clear b3 B2 hB2 hT2
       obtain ⟨k0, k1, k2, k3, k4, k5, k6, k7, k8⟩ := hB3.cf)
    | (go_at_call 13; (with_reducible refine (refNew_is c 0 HR.out w3 (hc.on B3)).mono ?_); rintro e w4 ⟨rfl, b4⟩
       have B4 := below_then B3 b4
       have hT4 := hT3.on b4
       clear k0 k1 k2 k3 k4 k5 k6 k7 k8
       obtain ⟨k0, k1, k2, k3, k4, k5, k6, k7, k8⟩ := (hB3.on b4).cf
       obtain ⟨j0, j1, j2, j3, j4, j5, j6, j7, j8⟩ := Blk.cf (c := (c.tw g1 c1 g2 c2 g3 c3 g4 c4)) (hV3.on b4)
       clear b4)
    | (go_at_call 14; (with_reducible refine (leftConfig_true c _ g1 c1 g2 c2 g3 c3 g4 c4 w4 hT4 (hc.on B4)).mono ?_); rintro e w5 ⟨rfl, b5⟩
       have B5 := below_then B4 b5
       clear b5)
    | (go_at_call 10; (with_reducible refine (lives_any w5 (hw.on B5)).mono ?_); rintro e w6 ⟨rfl, b6⟩))
  go_ret
  exact ⟨rfl, below_then B5 b6⟩

theorem configsNew_walk (c : Cf) (w : World) (hw : Ways w) (hr : CfRaw w c) :
    Calls Tryd.prog 3 #[.agg #[.int .i64 c.N, .slice c.pA c.pn c.pc, .slice c.sA c.sn c.sc, .int .i64 c.L, .slice c.bA c.bn c.bc, .slice c.tA c.tn c.tc, .int .i64 c.M, .int .i64 c.G, .int .i64 c.F]] w fun e w' => e = .returned (.bool true) ∧ Below w.heap.size w w' := by
  by_cases hg : greatB c = true
  · exact cfnew_great c w hw hg
  · have hg := bfalse hg
    obtain ⟨hc, _⟩ := hr.small hg
    by_cases h0 : newE c = 0
    · exact cfnew_yes c w hw hc hg h0
    · exact cfnew_no c w hw hc hg h0
end Go.Proofs.YtibniadebbgjcaaDoor
