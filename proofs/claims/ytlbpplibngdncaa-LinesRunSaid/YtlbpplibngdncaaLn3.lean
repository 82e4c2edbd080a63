/-
  The chapter's example, as the law's lives has it: true; nothing that was there has turned. No condition.
-/
import Derived.Test.YtlbpplibngdncaaLn2
namespace Go.Proofs.Ytlbpplibngdncaa
open Go.RowKit
set_option linter.unusedVariables false

theorem one_new (w : World) (t : TypeId) (v : Value) : (w.alloc (.cells #[v] t)).cell? ⟨w.heap.size, 0, none⟩ = some v := by
  simp
theorem hop1 : (1 : Int) = 1 ∨ (1 : Int) = 2 := .inl rfl
theorem hop2 : (2 : Int) = 1 ∨ (2 : Int) = 2 := .inr rfl
theorem one_lt (w : World) (o : Obj) : w.heap.size < (w.alloc o).heap.size := by simp
theorem oneI_new (w : World) (x : Int) : OneI (w.alloc (.cells #[.int .i64 x] 3)) (some ⟨w.heap.size, 0, none⟩) 1 (some x) := ⟨rfl, _, _, rfl, one_lt _ _, one_new _ _ _⟩
theorem oneU_new (w : World) (x : Int) : OneU (w.alloc (.cells #[.int .u8 x] 5)) (some ⟨w.heap.size, 0, none⟩) 1 (some x) := ⟨rfl, _, _, rfl, one_lt _ _, one_new _ _ _⟩
theorem oneS_new (w : World) (x : ByteArray) : OneS (w.alloc (.cells #[.string x] 9)) (some ⟨w.heap.size, 0, none⟩) 1 (some x) := ⟨rfl, _, _, rfl, one_lt _ _, one_new _ _ _⟩
theorem oneL_new (w : World) (A : Option Addr) (n c : Nat) : OneL (w.alloc (.cells #[.slice A n c] 64)) (some ⟨w.heap.size, 0, none⟩) 1 (some (A, n, c)) := ⟨rfl, _, _, rfl, one_lt _ _, one_new _ _ _⟩
set_option maxRecDepth 100000 in
theorem lives_ln (w : World) : Calls Try.prog 7 #[] w fun e w' => e = .returned (.bool true) ∧ Below w.heap.size w w' := by
  have A3 := Lib.hid (show nowL 2 (none : Option Int) (some 5) = none from rfl)
  have B3 := Lib.hid (show nextL 2 (none : Option Int) (some 5) = some 5 from rfl)
  have A5 := Lib.hid (show nowL 2 (some (5 : Int)) none = some 5 from rfl)
  have B5 := Lib.hid (show nextL 2 (some (5 : Int)) none = none from rfl)
  have A7 := Lib.hid (show nowL 2 (none : Option Int) none = none from rfl)
  have B7 := Lib.hid (show nextL 2 (none : Option Int) none = none from rfl)
  have K3 := Lib.hid (show (0 : Int) + 1 = 1 by decide)
  have K5 := Lib.hid (show (1 : Int) + 1 = 2 by decide)
  have K7 := Lib.hid (show (2 : Int) + 1 = 3 by decide)
  have Q0 := Lib.hid (show (0 : Int) ≤ 0 ∧ (0 : Int) < 4611686018427387904 by decide)
  have Q1 := Lib.hid (show (0 : Int) ≤ 1 ∧ (1 : Int) < 4611686018427387904 by decide)
  have Q2 := Lib.hid (show (0 : Int) ≤ 2 ∧ (2 : Int) < 4611686018427387904 by decide)
  have X1 := Lib.hid (show (none : Option Int).getD 0 = 0 from rfl)
  have P1 := Lib.hid (show (none : Option Int).isSome = false from rfl)
  have X3 := X1
  have P3 := P1
  have X5 := Lib.hid (show (some (5 : Int)).getD 0 = 5 from rfl)
  have P5 := Lib.hid (show (some (5 : Int)).isSome = true from rfl)
  have X7 := X1
  have P7 := P1
  have HE := Lib.hid (show ∀ u : World, OneI u none 0 none from fun _ => rfl)
  go_enter Try.func7, Try.ntmps7
  go_wp2_with (first
    | (go_at_call 8; (with_reducible refine (newI_is 2 _ hop2).mono ?_); rintro e u1 ⟨rfl, hL1, b1⟩)
    | (go_at_call 10; (with_reducible refine (hereI_is _ 2 0 none none 0 X1.out false P1.out _ hL1).mono ?_); rintro e u2 ⟨rfl, b2⟩; have hL2 := hL1.on b2)
    | (go_at_call 18; (with_reducible refine (sendI_is _ 2 0 none none (some 5) none (some 5) _ 1 1 A3.out B3.out 1 K3.out _ (hL2.al (.cells #[.int .i64 5] 3)) hop2 Q0.out.1 Q0.out.2 (oneI_new u2 5)).mono ?_); rintro e u3 ⟨rfl, hL3, b3⟩)
    | (go_at_call 10; (with_reducible refine (hereI_is _ 2 1 none (some 5) 0 X3.out false P3.out _ hL3).mono ?_); rintro e u4 ⟨rfl, b4⟩; have hL4 := hL3.on b4)
    | (go_at_call 18; (with_reducible refine (sendI_is _ 2 1 none (some 5) none (some 5) none none 0 0 A5.out B5.out 2 K5.out u4 hL4 hop2 Q1.out.1 Q1.out.2 (HE.out _)).mono ?_); rintro e u5 ⟨rfl, hL5, b5⟩)
    | (go_at_call 10; (with_reducible refine (hereI_is _ 2 2 (some 5) none 5 X5.out true P5.out _ hL5).mono ?_); rintro e u6 ⟨rfl, b6⟩; have hL6 := hL5.on b6)
    | (go_at_call 18; (with_reducible refine (sendI_is _ 2 2 (some 5) none none none none none 0 0 A7.out B7.out 3 K7.out u6 hL6 hop2 Q2.out.1 Q2.out.2 (HE.out _)).mono ?_); rintro e u7 ⟨rfl, hL7, b7⟩)
    | (go_at_call 10; (with_reducible refine (hereI_is _ 2 3 none none 0 X7.out false P7.out _ hL7).mono ?_); rintro e u8 ⟨rfl, b8⟩; have hL8 := hL7.on b8))
  go_ret
  have e2 := below_then b1 b2
  have e3 := (e2.alloc e2.size _).trans (b3.low (Nat.le_refl _))
  have e4 := e3.trans (b4.mono e3.size)
  have e5 := e4.trans (b5.low (Nat.le_refl _))
  have e6 := e5.trans (b6.mono e5.size)
  have e7 := e6.trans (b7.low (Nat.le_refl _))
  exact ⟨rfl, e7.trans (b8.mono e7.size)⟩
end Go.Proofs.Ytlbpplibngdncaa
