/-
  The law LinesRun, its short ways walked: too many sendings; a hop that is none: true; nothing that was there has turned. No condition but those that are named.
-/
import Derived.Test.YtlbpplibngdncaaLn3
import Derived.Test.YtlbpplibngdncaaLn7
namespace Go.Proofs.Ytlbpplibngdncaa
open Go.RowKit
set_option linter.unusedVariables false

set_option maxRecDepth 100000 in
theorem linesRun_long (hop : Int) (A : Option Addr) (n c : Nat) (w : World) (hn : 300 < n) :
    Calls Try.prog 3 #[.int .i64 hop, .slice A n c] w fun e w' => e = .returned (.bool true) ∧ Below w.heap.size w w' := by
  have hd : decide ((300 : Int) < (n : Int)) = true := decide_eq_true (by omega)
  clear hn
  go_enter Try.func3, Try.ntmps3
  go_wp2_with (go_at_call 7; (with_reducible refine (lives_ln _).mono ?_); rintro e u1 ⟨rfl, b1⟩)
  go_ret
  exact ⟨rfl, b1⟩
set_option maxRecDepth 100000 in
theorem linesRun_bad (hop : Int) (A : Option Addr) (n c : Nat) (w : World) (hn : n ≤ 300) (h1 : hop ≠ 1) (h2 : hop ≠ 2) :
    Calls Try.prog 3 #[.int .i64 hop, .slice A n c] w fun e w' => e = .returned (.bool true) ∧ Below w.heap.size w w' := by
  have hd : decide ((300 : Int) < (n : Int)) = false := decide_eq_false (by omega)
  have H1 := Lib.hid h1
  have H2 := Lib.hid h2
  clear hn h1 h2
  go_enter Try.func3, Try.ntmps3
  go_wp2_with (first
    | (go_at_call 8; (with_reducible refine (newI_no hop w H1.out H2.out).mono ?_); rintro e u1 ⟨rfl, b1⟩)
    | (go_at_call 9; (with_reducible refine (refNew_no hop u1 H1.out H2.out).mono ?_); rintro e u2 ⟨rfl, b2⟩)
    | (go_at_call 7; (with_reducible refine (lives_ln u2).mono ?_); rintro e u3 ⟨rfl, b3⟩))
  go_ret
  exact ⟨rfl, below_then (below_then b1 b2) b3⟩
end Go.Proofs.Ytlbpplibngdncaa
