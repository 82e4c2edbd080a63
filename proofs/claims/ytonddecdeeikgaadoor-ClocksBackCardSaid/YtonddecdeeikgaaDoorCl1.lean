/-
  The contracts of the small functions of clocks: is, isAge, round, ahead, age of a scale. Conditions: those that are named: that no number is too great.
-/
import Derived.Test.YtonddecdeeikgaaDoorClM
import Derived.Test.YtonddecdeeikgaaDoorKinds
import Derived.Test.YtonddecdeeikgaaDoorReg2
import Derived.IntWalk
import Derived.Laws.StructEq
namespace Go.Proofs.YtonddecdeeikgaaDoor
open Go.RowKit Cl

theorem tm_eql (r k p r' k' p' : Int) (w : World) : (binOp .eql 27 (.agg #[.int .i64 r, .int .i64 k, .int .i64 p]) (.agg #[.int .i64 r', .int .i64 k', .int .i64 p'])).run Tryd.prog w = .ok (.bool (r == r' && k == k' && p == p')) w := by
  go_simp
  by_cases h1 : r = r' <;> by_cases h2 : k = k' <;> by_cases h3 : p = p' <;> simp [h1, h2, h3]
theorem tm_neq (r k p r' k' p' : Int) (w : World) : (binOp .neq 27 (.agg #[.int .i64 r, .int .i64 k, .int .i64 p]) (.agg #[.int .i64 r', .int .i64 k', .int .i64 p'])).run Tryd.prog w = .ok (.bool (!(r == r' && k == k' && p == p'))) w := by
  go_simp
  by_cases h1 : r = r' <;> by_cases h2 : k = k' <;> by_cases h3 : p = p' <;> simp [h1, h2, h3]
theorem sc_neq (s L s' L' : Int) (w : World) : (binOp .neq 50 (.agg #[.int .i64 s, .int .i64 L]) (.agg #[.int .i64 s', .int .i64 L'])).run Tryd.prog w = .ok (.bool (!(s == s' && L == L'))) w := by
  go_simp
  by_cases h1 : s = s' <;> by_cases h2 : L = L' <;> simp [h1, h2]

theorem scIs_any (s L : Int) (w : World) :
    Calls Tryd.prog 24 #[.agg #[.int .i64 s, .int .i64 L]] w fun e w' => e = .returned (.bool (!(s == 0 && L == 0))) ∧ Below w.heap.size w w' := by
  have hq := sc_neq s L 0 0
  have hb := below_al (Below.refl w.heap.size w) (.cells #[.int .i64 s, .int .i64 L] 50)
  go_enter Tryd.func24, Tryd.ntmps24
  go_wp2_with fail
  go_ret
  exact ⟨ret_bool (show (!s == 0 || !L == 0) = (!(s == 0 && L == 0)) from (Bool.not_and _ _).symm), hb⟩
theorem scIs_is (s L : Int) (b : Bool) (h : (!(s == 0 && L == 0)) = b) (w : World) :
    Calls Tryd.prog 24 #[.agg #[.int .i64 s, .int .i64 L]] w fun e w' => e = .returned (.bool b) ∧ Below w.heap.size w w' := by
  subst h; exact scIs_any s L w
theorem isAge_any (a : Int) (w : World) :
    Calls Tryd.prog 25 #[.int .i64 a] w fun e w' => e = .returned (.bool (Cl.isAge a)) ∧ Below w.heap.size w w' := by
  have hb := Below.refl w.heap.size w
  by_cases h1 : 0 ≤ a
  · by_cases h2 : a ≤ 1099511627776
    · have HM := Lib.hid (show Cl.isAge a = true by simp [Cl.isAge, h1, h2])
      go_enter Tryd.func25, Tryd.ntmps25
      go_wp2_with fail
      go_ret
      exact ⟨ret_bool HM.out.symm, hb⟩
    · have HM := Lib.hid (show Cl.isAge a = false by simp [Cl.isAge, h1, h2])
      go_enter Tryd.func25, Tryd.ntmps25
      go_wp2_with fail
      go_ret
      exact ⟨ret_bool HM.out.symm, hb⟩
  · have HM := Lib.hid (show Cl.isAge a = false by simp [Cl.isAge, h1])
    go_enter Tryd.func25, Tryd.ntmps25
    go_wp2_with fail
    go_ret
    exact ⟨ret_bool HM.out.symm, hb⟩
theorem isAge_is (a : Int) (b : Bool) (h : Cl.isAge a = b) (w : World) :
    Calls Tryd.prog 25 #[.int .i64 a] w fun e w' => e = .returned (.bool b) ∧ Below w.heap.size w w' := by
  subst h; exact isAge_any a w

/-- A scale as one of a net that may be. -/
structure Sc (s L : Int) : Prop where
  s1 : 1 ≤ s
  s2 : s ≤ 65536
  l1 : 1 ≤ L
  l2 : L ≤ 4096
theorem Sc.round {s L : Int} (h : Sc s L) : 1 ≤ s * L ∧ s * L ≤ 268435456 := by
  refine ⟨Cl.mul_pos h.s1 h.l1, ?_⟩
  have h1 : s * L ≤ 65536 * L := Int.mul_le_mul_of_nonneg_right h.s2 (by have := h.l1; omega)
  have := h.l2
  omega
theorem scRound_is (s L R : Int) (hR : s * L = R) (w : World) (h : Sc s L) :
    Calls Tryd.prog 38 #[.agg #[.int .i64 s, .int .i64 L]] w fun e w' => e = .returned (.int .i64 R) ∧ Below w.heap.size w w' := by
  have hb := below_al (Below.refl w.heap.size w) (.cells #[.int .i64 s, .int .i64 L] 50)
  have hm := h.round
  have hwr : IntKind.i64.wrap (s * L) = R := by rw [← hR]; exact IntWalk.i64_in _ (by omega)
  clear hm h hR
  go_enter Tryd.func38, Tryd.ntmps38
  go_wp2_with fail
  go_ret
  exact ⟨rfl, hb⟩
theorem scUp_is (s L : Int) (t : Tm) (y : Int) (hy : upM s t = y) (w : World) (h1 : 0 ≤ t.r * s) (h2 : t.r * s ≤ 1099511627776 * 65536) (h3 : 0 ≤ t.k) (h4 : t.k ≤ 65536) :
    Calls Tryd.prog 30 #[.agg #[.int .i64 s, .int .i64 L], .agg #[.int .i64 t.r, .int .i64 t.k, .int .i64 t.p]] w fun e w' => e = .returned (.int .i64 y) ∧ Below w.heap.size w w' := by
  have hb := below_al (below_al (Below.refl w.heap.size w) (.cells #[.int .i64 s, .int .i64 L] 50)) (.cells #[.int .i64 t.r, .int .i64 t.k, .int .i64 t.p] 27)
  have hwr : IntKind.i64.wrap (t.r * s) = t.r * s := IntWalk.i64_in _ (by omega)
  have hwq : IntKind.i64.wrap (t.r * s + t.k) = y := by rw [← hy]; exact IntWalk.i64_in _ (by omega)
  clear hy h1 h2 h3 h4
  go_enter Tryd.func30, Tryd.ntmps30
  go_wp2_with fail
  go_ret
  exact ⟨rfl, hb⟩
end Go.Proofs.YtonddecdeeikgaaDoor
