/-
  The contract of package configs' rule on a slot's length. Condition: the rule on nodes is kept.
-/
import Derived.Test.YtbfgdphfeifglaaDoorCf4
namespace Go.Proofs.YtbfgdphfeifglaaDoor
open Go.RowKit Rg

set_option maxHeartbeats 2000000 in
theorem rule6_any (c : Cf) (w : World) (h1 : 4 ≤ c.N) (h2 : c.N ≤ 16) :
    Calls Tryd.prog 67 #[.agg #[.int .i64 c.N, .slice c.pA c.pn c.pc, .slice c.sA c.sn c.sc, .int .i64 c.L, .slice c.bA c.bn c.bc, .slice c.tA c.tn c.tc, .int .i64 c.M, .int .i64 c.G, .int .i64 c.F]] w fun e w' => e = .returned (.int .i64 (wit (c.N + 116) 4096 c.L)) ∧ Below w.heap.size w w' := by
  go_enter Tryd.func67, Tryd.ntmps67
  go_wp2_with fail
  go_region_with (first
    | (go_at_call 68; (with_reducible refine (leastLong_any c.N _ h1 h2).mono ?_); rintro e w' ⟨rfl, rfl⟩)
    | (go_at_call 62; (with_reducible refine (within1d _ 4096 c.L _ _ _ (by simp)).mono ?_); rintro e w' ⟨rfl, rfl⟩))
  all_goals (go_wp2_with fail; go_ret; exact ⟨rfl, (below_al (below_al (Below.refl _ _) _) _).drew⟩)
end Go.Proofs.YtbfgdphfeifglaaDoor

