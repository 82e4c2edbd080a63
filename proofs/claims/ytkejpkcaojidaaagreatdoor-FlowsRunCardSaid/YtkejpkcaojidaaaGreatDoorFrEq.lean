/-
  '==' and '!=' of payloads and of frames: just if all their numbers are the same. No condition.
-/
import Derived.Test.YtkejpkcaojidaaaGreatDoorMem
import Derived.Laws.StructEq
namespace Go.Proofs.YtkejpkcaojidaaaGreatDoor
set_option linter.unusedVariables false
set_option linter.unusedSimpArgs false
open Go.RowKit
theorem pay_eql (k s q v k' s' q' v' : Int) (w : World) : (binOp .eql 40 (.agg #[.int .u8 k, .int .u8 s, .int .u32 q, .int .u32 v]) (.agg #[.int .u8 k', .int .u8 s', .int .u32 q', .int .u32 v'])).run Tryz.prog w = .ok (.bool (k == k' && s == s' && q == q' && v == v')) w := by
  go_simp
  by_cases h1 : k = k' <;> by_cases h2 : s = s' <;> by_cases h3 : q = q' <;> by_cases h4 : v = v' <;> simp [h1, h2, h3, h4]
end Go.Proofs.YtkejpkcaojidaaaGreatDoor

