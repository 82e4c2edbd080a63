/-
  The contract of the reference's Put of frames: the frame's bytes, in new memory; ErrArg and nothing, if it may not be. Conditions: the frame's numbers are of their kinds.
-/
import Derived.Test.YtpjcbfapkjipjaaFr3
namespace Go.Proofs.Ytpjcbfapkjipjaa
open Go.RowKit Crc

theorem body_q (f : Fr) (r : Nat) (hr : r < 4) (h0 : 0 ≤ f.q) (h1 : f.q < 4294967296) : f.body.getD (2 + (4 - (r + 1))) 0 = f.q / 2 ^ (8 * r) % 256 := by
  rw [← four_at f.q r hr h0 h1]
  match r, hr with
  | 0, _ => rfl
  | 1, _ => rfl
  | 2, _ => rfl
  | 3, _ => rfl
theorem body_v (f : Fr) (r : Nat) (hr : r < 4) (h0 : 0 ≤ f.v) (h1 : f.v < 4294967296) : f.body.getD (6 + (4 - (r + 1))) 0 = f.v / 2 ^ (8 * r) % 256 := by
  rw [← four_at f.v r hr h0 h1]
  match r, hr with
  | 0, _ => rfl
  | 1, _ => rfl
  | 2, _ => rfl
  | 3, _ => rfl

end Go.Proofs.Ytpjcbfapkjipjaa
