/-
  The contract of the law's lives: the chapter's examples: true; nothing that was there has turned. Condition: the table of directions is as the program's text lays it.
-/
import Derived.Test.YtgmoifbncijhdaaDoorRg4
import Derived.Test.YtgmoifbncijhdaaDoorNums
namespace Go.Proofs.YtgmoifbncijhdaaDoor
open Go.RowKit Rg

theorem ends_is (n l p q r s : Int) (hp : endFrom n l = p) (hq : endTo n l = q) (hr : endDir n l = r) (hs : endHop n l = s) (w : World) (hw : Ways w) (hl : -9223372036854775808 ≤ l) (hl' : l ≤ 9223372036854775807) :
    Calls Tryd.prog 22 #[.int .i64 n, .int .i64 l] w fun e w' => e = .returned (.tuple #[.int .i64 p, .int .i64 q, .int .u8 r, .int .i64 s]) ∧ Below w.heap.size w w' := by
  subst hp hq hr hs; exact ends_any n l w hw hl hl'
theorem step_is (n d x s p : Int) (hp : stepM n d x s = p) (w : World) (hw : Ways w) (hd : 0 ≤ d) (hd' : d ≤ 255) :
    Calls Tryd.prog 25 #[.int .i64 n, .int .u8 d, .int .i64 x, .int .i64 s] w fun e w' => e = .returned (.int .i64 p) ∧ Below w.heap.size w w' := by
  subst hp; exact step_any n d x s w hw hd hd'
theorem source_is (n d x h p : Int) (hp : sourceM n d x h = p) (w : World) (hw : Ways w) (hd : 0 ≤ d) (hd' : d ≤ 255) :
    Calls Tryd.prog 23 #[.int .i64 n, .int .u8 d, .int .i64 x, .int .i64 h] w fun e w' => e = .returned (.int .i64 p) ∧ Below w.heap.size w w' := by
  subst hp; exact source_any n d x h w hw hd hd'
theorem link_is (n d x h p : Int) (hp : linkM n d x h = p) (w : World) (hd : 0 ≤ d) (hd' : d ≤ 255) :
    Calls Tryd.prog 24 #[.int .i64 n, .int .u8 d, .int .i64 x, .int .i64 h] w fun e w' => e = .returned (.int .i64 p) ∧ Below w.heap.size w w' := by
  subst hp; exact link_any n d x h w hd hd'
end Go.Proofs.YtgmoifbncijhdaaDoor
