/-
  A config as it came in, and the contracts of Great and New at what is known of it. Conditions: those that are named.
-/
import Derived.Test.YtajkpbmjgncbbaaDoorCfLv
namespace Go.Proofs.YtajkpbmjgncbbaaDoor
open Go.RowKit Rg

/-- A config as it came in: its lists may be of whatever length. -/
structure CfRaw (w : World) (c : Cf) : Prop where
  p : Lies .i64 w w.heap.size c.pA c.pn c.P
  s : Lies .i64 w w.heap.size c.sA c.sn c.S
  b : Lies .i64 w w.heap.size c.bA c.bn c.B
  t : LiesT w w.heap.size c.tA c.tn c.T
theorem CfRaw.small {w : World} {c : Cf} (h : CfRaw w c) (hg : greatB c = false) : CfIn w c ∧ c.pn ≤ 60 ∧ c.sn ≤ 60 ∧ c.bn ≤ 60 ∧ c.tn ≤ 60 := by
  simp only [greatB, decide_eq_false_iff_not] at hg
  exact ⟨⟨h.p, h.s, h.b, h.t, by omega⟩, by omega⟩
theorem great_is (c : Cf) (b : Bool) (hb : greatB c = b) (w : World) :
    Calls Tryd.prog 22 #[.agg #[.int .i64 c.N, .slice c.pA c.pn c.pc, .slice c.sA c.sn c.sc, .int .i64 c.L, .slice c.bA c.bn c.bc, .slice c.tA c.tn c.tc, .int .i64 c.M, .int .i64 c.G, .int .i64 c.F]] w fun e w' => e = .returned (.bool b) ∧ Below w.heap.size w w' := by
  subst hb; exact great_any c w
theorem new_no_is (c : Cf) (r : Int) (hr : newE c = r) (w : World) (hc : CfIn w c) (hw : Ways w) (h0 : r ≠ 0) :
    Calls Tryd.prog 24 #[.agg #[.int .i64 c.N, .slice c.pA c.pn c.pc, .slice c.sA c.sn c.sc, .int .i64 c.L, .slice c.bA c.bn c.bc, .slice c.tA c.tn c.tc, .int .i64 c.M, .int .i64 c.G, .int .i64 c.F]] w fun e w' => e = .returned (.tuple #[.pointer none, .int .i64 r]) ∧ Below w.heap.size w w' := by
  subst hr; exact new_no c w hc hw h0
end Go.Proofs.YtajkpbmjgncbbaaDoor

