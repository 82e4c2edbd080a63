/-
  A number cut to its lower 40, or 39, bits: its bounds. No condition.
-/
import Derived.Test.YtcangipaoancnaaKinds
namespace Go.Proofs.Ytcangipaoancnaa
open Go.RowKit

theorem and40 (s : Int) : 0 ≤ bits .and .i64 s 1099511627775 ∧ bits .and .i64 s 1099511627775 ≤ 1099511627775 := by
  have e : (BitVec.ofInt 64 1099511627775).toNat = 1099511627775 := by decide
  have hle : (BitVec.ofInt 64 s &&& BitVec.ofInt 64 1099511627775).toNat ≤ 1099511627775 := by
    rw [BitVec.toNat_and, e]; exact Nat.and_le_right
  have hb : bits .and .i64 s 1099511627775 = IntKind.i64.wrap ((BitVec.ofInt 64 s &&& BitVec.ofInt 64 1099511627775).toNat : Int) := rfl
  rw [hb, IntKind.wrap_i64]
  omega
theorem and39 (s : Int) : 0 ≤ bits .and .i64 s 549755813887 ∧ bits .and .i64 s 549755813887 ≤ 549755813887 := by
  have e : (BitVec.ofInt 64 549755813887).toNat = 549755813887 := by decide
  have hle : (BitVec.ofInt 64 s &&& BitVec.ofInt 64 549755813887).toNat ≤ 549755813887 := by
    rw [BitVec.toNat_and, e]; exact Nat.and_le_right
  have hb : bits .and .i64 s 549755813887 = IntKind.i64.wrap ((BitVec.ofInt 64 s &&& BitVec.ofInt 64 549755813887).toNat : Int) := rfl
  rw [hb, IntKind.wrap_i64]
  omega
end Go.Proofs.Ytcangipaoancnaa

