/-
  '==' and '!=' of payloads and of frames: just if all their numbers are the same. No condition.
-/
import Derived.Test.YtadcmoldpbnmnaaGreatDoorMem
import Derived.Laws.StructEq
namespace Go.Proofs.YtadcmoldpbnmnaaGreatDoor
open Go.RowKit
theorem pay_eql (k s q v k' s' q' v' : Int) (w : World) : (binOp .eql 40 (.agg #[.int .u8 k, .int .u8 s, .int .u32 q, .int .u32 v]) (.agg #[.int .u8 k', .int .u8 s', .int .u32 q', .int .u32 v'])).run Tryz.prog w = .ok (.bool (k == k' && s == s' && q == q' && v == v')) w := by
  go_simp
  by_cases h1 : k = k' <;> by_cases h2 : s = s' <;> by_cases h3 : q = q' <;> by_cases h4 : v = v' <;> simp [h1, h2, h3, h4]
theorem fr_eql (o k s q v o' k' s' q' v' : Int) (w : World) : (binOp .eql 115 (.agg #[.int .i64 o, .int .u8 k, .int .u8 s, .int .u32 q, .int .u32 v]) (.agg #[.int .i64 o', .int .u8 k', .int .u8 s', .int .u32 q', .int .u32 v'])).run Tryz.prog w = .ok (.bool (o == o' && (k == k' && s == s' && q == q' && v == v'))) w := by
  go_simp
  by_cases h0 : o = o' <;> by_cases h1 : k = k' <;> by_cases h2 : s = s' <;> by_cases h3 : q = q' <;> by_cases h4 : v = v' <;> simp [h0, h1, h2, h3, h4]
theorem fr_neq (o k s q v o' k' s' q' v' : Int) (w : World) : (binOp .neq 115 (.agg #[.int .i64 o, .int .u8 k, .int .u8 s, .int .u32 q, .int .u32 v]) (.agg #[.int .i64 o', .int .u8 k', .int .u8 s', .int .u32 q', .int .u32 v'])).run Tryz.prog w = .ok (.bool (!(o == o' && (k == k' && s == s' && q == q' && v == v')))) w := by
  go_simp
  by_cases h0 : o = o' <;> by_cases h1 : k = k' <;> by_cases h2 : s = s' <;> by_cases h3 : q = q' <;> by_cases h4 : v = v' <;> simp [h0, h1, h2, h3, h4]
end Go.Proofs.YtadcmoldpbnmnaaGreatDoor

