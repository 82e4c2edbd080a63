/-
  What a region keeps that makes a window of noughts and writes noughts into it. No condition.
-/
import Derived.Test.YtajkpbmjgncbbaaDoorReg2
namespace Go.Proofs.YtajkpbmjgncbbaaDoor
open Go.RowKit
set_option linter.unusedVariables false

abbrev zWn : Array Value := #[.int .u8 0, .int .i64 0, .int .i64 0, .int .i64 0]
/-- All blocks below B stay; each window of noughts from B on stays one. -/
structure KZ (B : Nat) (w w' : World) : Prop where
  low : Below B w w'
  win : ∀ g, Blk w g 33 zWn → Blk w' g 33 zWn
namespace KZ
variable {B : Nat} {w w' : World}
theorem trans (a b c : World) (h : KZ B a b) (k : KZ B b c) : KZ B a c := ⟨h.1.trans k.1, fun g hg => k.2 g (h.2 g hg)⟩
theorem refl (w : World) : KZ B w w := ⟨Below.refl _ _, fun _ h => h⟩
theorem drew (w : World) (_ : True) : KZ B w w.drew := ⟨(Below.refl _ _).drew, fun _ h => h⟩
theorem grow (hB : B ≤ w.heap.size) (h : Below w.heap.size w w') : KZ B w w' := ⟨h.mono hB, fun g hg => hg.on h⟩
theorem size (h : KZ B w w') : w.heap.size ≤ w'.heap.size := h.1.size
/-- Noughts are written into a window of noughts. -/
theorem put {g : Nat} (hB : B ≤ g) (hg : Blk w g 33 zWn) : KZ B w ((((w.setCell ⟨g, 0, none⟩ (.int .u8 0)).setCell ⟨g, 1, none⟩ (.int .i64 0)).setCell ⟨g, 2, none⟩ (.int .i64 0)).setCell ⟨g, 3, none⟩ (.int .i64 0)) := by
  refine ⟨(((Below.refl _ _).setCell (p := ⟨g, 0, none⟩) hB _).setCell (p := ⟨g, 1, none⟩) hB _).setCell (p := ⟨g, 2, none⟩) hB _ |>.setCell (p := ⟨g, 3, none⟩) hB _, fun k hk => ?_⟩
  by_cases e : k = g
  · subst e
    have h := (((hg.set_ 0 (.int .u8 0)).set_ 1 (.int .i64 0)).set_ 2 (.int .i64 0)).set_ 3 (.int .i64 0)
    exact h
  · unfold Blk at hk ⊢
    rw [Below.heap_setCell _ _ _ _ e, Below.heap_setCell _ _ _ _ e, Below.heap_setCell _ _ _ _ e, Below.heap_setCell _ _ _ _ e]
    exact hk
end KZ
/-- A new window of noughts. -/
def Reg.FactK.zw {B : Nat} : Reg.FactK (KZ B) := ⟨fun v w => ∃ g, v = .pointer (some ⟨g, 0, none⟩) ∧ B ≤ g ∧ Blk w g 33 zWn, fun v w w' hk h => by
  obtain ⟨g, e, hg, hB⟩ := h
  exact ⟨g, e, hg, hk.2 g hB⟩⟩
end Go.Proofs.YtajkpbmjgncbbaaDoor

