/-
  The contracts of the law's Net: none, or a net of the config that came in. Conditions: the config's reading; the table of directions is as the program's text lays it.
-/
import Derived.Test.YtbfgdphfeifglaaDoorCfR
import Derived.Test.YtbfgdphfeifglaaDoorCfRef3
namespace Go.Proofs.YtbfgdphfeifglaaDoor
open Go.RowKit Rg
set_option linter.unusedVariables false

theorem netGreat (c : Cf) (w : World) (hg : greatB c = true) :
    Calls Tryd.prog 7 #[.agg #[.int .i64 c.N, .slice c.pA c.pn c.pc, .slice c.sA c.sn c.sc, .int .i64 c.L, .slice c.bA c.bn c.bc, .slice c.tA c.tn c.tc, .int .i64 c.M, .int .i64 c.G, .int .i64 c.F]] w fun e w' => e = .returned (.pointer none) ∧ Below w.heap.size w w' := by
  have HG := Lib.hid hg
  clear hg
  go_enter Tryd.func7, Tryd.ntmps7
  go_wp2_with (go_at_call 21; (with_reducible refine (great_is c true HG.out _).mono ?_); rintro e w1 ⟨rfl, b1⟩)
  go_ret
  exact ⟨rfl, below_then (below_al (Below.refl _ _) _) b1⟩
theorem refNewE_is (c : Cf) (r : Int) (hr : newE c = r) (w : World) (hc : CfIn w c) :
    Calls Tryd.prog 22 #[.agg #[.int .i64 c.N, .slice c.pA c.pn c.pc, .slice c.sA c.sn c.sc, .int .i64 c.L, .slice c.bA c.bn c.bc, .slice c.tA c.tn c.tc, .int .i64 c.M, .int .i64 c.G, .int .i64 c.F]] w fun e w' => e = .returned (.int .i64 r) ∧ Below w.heap.size w w' := by
  subst hr; exact refNew_any c w hc
theorem netBad (c : Cf) (w : World) (hc : CfIn w c) (hg : greatB c = false) (h0 : newE c ≠ 0) :
    Calls Tryd.prog 7 #[.agg #[.int .i64 c.N, .slice c.pA c.pn c.pc, .slice c.sA c.sn c.sc, .int .i64 c.L, .slice c.bA c.bn c.bc, .slice c.tA c.tn c.tc, .int .i64 c.M, .int .i64 c.G, .int .i64 c.F]] w fun e w' => e = .returned (.pointer none) ∧ Below w.heap.size w w' := by
  have HG := Lib.hid hg
  obtain ⟨r, hr⟩ : ∃ r, r = newE c := ⟨_, rfl⟩
  rw [← hr] at h0
  have HR := Lib.hid hr.symm
  have e1 := beq_eq_false_iff_ne.2 h0
  clear hg hr h0
  go_enter Tryd.func7, Tryd.ntmps7
  go_wp2_with (first
    | (go_at_call 21; (with_reducible refine (great_is c false HG.out _).mono ?_); rintro e w1 ⟨rfl, b1⟩; obtain ⟨k0, k1, k2, k3, k4, k5, k6, k7, k8⟩ := ((Blk.new w _ _).on b1).cf)
    | (go_at_call 22; (with_reducible refine (refNewE_is c r HR.out w1 ((hc.al _).on b1)).mono ?_); rintro e w2 ⟨rfl, b2⟩))
  go_ret
  exact ⟨rfl, below_then (below_then (below_al (Below.refl _ w) _) b1) b2⟩
theorem netYes (c : Cf) (w : World) (hw : Ways w) (hc : CfIn w c) (hg : greatB c = false) (h0 : newE c = 0) :
    Calls Tryd.prog 7 #[.agg #[.int .i64 c.N, .slice c.pA c.pn c.pc, .slice c.sA c.sn c.sc, .int .i64 c.L, .slice c.bA c.bn c.bc, .slice c.tA c.tn c.tc, .int .i64 c.M, .int .i64 c.G, .int .i64 c.F]] w fun e w' => ∃ (g : Nat) (A1 A2 A3 A4 : Option Addr), e = .returned (.pointer (some ⟨g, 0, none⟩)) ∧ NetIs w' (.pointer (some ⟨g, 0, none⟩)) (c.to A1 A2 A3 A4) ∧ Below w.heap.size w w' := by
  have HG := Lib.hid hg
  have HR := Lib.hid h0
  clear hg h0
  go_enter Tryd.func7, Tryd.ntmps7
  go_wp2_with (first
    | (go_at_call 21; (with_reducible refine (great_is c false HG.out _).mono ?_); rintro e w1 ⟨rfl, b1⟩; have hB1 : Blk w1 w.heap.size 25 #[.int .i64 c.N, .slice c.pA c.pn c.pc, .slice c.sA c.sn c.sc, .int .i64 c.L, .slice c.bA c.bn c.bc, .slice c.tA c.tn c.tc, .int .i64 c.M, .int .i64 c.G, .int .i64 c.F] := (Blk.new w _ _).on b1; obtain ⟨k0, k1, k2, k3, k4, k5, k6, k7, k8⟩ := hB1.cf; have hB := below_then (below_al (Below.refl _ w) (.cells #[.int .i64 c.N, .slice c.pA c.pn c.pc, .slice c.sA c.sn c.sc, .int .i64 c.L, .slice c.bA c.bn c.bc, .slice c.tA c.tn c.tc, .int .i64 c.M, .int .i64 c.G, .int .i64 c.F] 25)) b1)
    | (go_at_call 22; (with_reducible refine (refNewE_is c 0 HR.out w1 (hc.on hB)).mono ?_); rintro e w2 ⟨rfl, b2⟩; clear k0 k1 k2 k3 k4 k5 k6 k7 k8; obtain ⟨k0, k1, k2, k3, k4, k5, k6, k7, k8⟩ := (hB1.on b2).cf; have hB2 := below_then hB b2)
    | (go_at_call 23; (with_reducible refine (new_yes c w2 (hc.on hB2) (hw.on hB2) HR.out).mono ?_); rintro e w3 ⟨g, A1, A2, A3, A4, rfl, -, hN, -, b3⟩; have hB3 := below_then hB2 b3))
  go_ret
  exact ⟨g, _, _, _, _, rfl, hN, hB3⟩
/-- A config that came in: with no net, or read, and such as may be. -/
theorem raw_cases {w : World} {c : Cf} (h : CfRaw w c) : (∀ u, Below w.heap.size w u → Calls Tryd.prog 7 #[.agg #[.int .i64 c.N, .slice c.pA c.pn c.pc, .slice c.sA c.sn c.sc, .int .i64 c.L, .slice c.bA c.bn c.bc, .slice c.tA c.tn c.tc, .int .i64 c.M, .int .i64 c.G, .int .i64 c.F]] u fun e w' => e = .returned (.pointer none) ∧ Below u.heap.size u w') ∨ (CfIn w c ∧ greatB c = false ∧ newE c = 0) := by
  by_cases hg : greatB c = true
  · exact .inl fun u hu => netGreat c u hg
  · have hg' : greatB c = false := by simpa using hg
    have hc := (h.small hg').1
    by_cases h0 : newE c = 0
    · exact .inr ⟨hc, hg', h0⟩
    · exact .inl fun u hu => netBad c u (hc.on hu) hg' h0
end Go.Proofs.YtbfgdphfeifglaaDoor

