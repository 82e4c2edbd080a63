/-
  Pairs and halves by their places: the net's Pair; a node is a half of a pair just if its place is 0 or 1. Conditions: as named.
-/
import Derived.Test.YtbfgdphfeifglaaDoorWn3
import Derived.Test.YtbfgdphfeifglaaDoorCfH
import Derived.Test.YtbfgdphfeifglaaDoorCf8
namespace Go.Proofs.YtbfgdphfeifglaaDoor
open Go.RowKit Rg

theorem netPair_is (v : Value) (N : Int) (P : List Int) (x p : Int) (hp : pairM N P x = p) (w : World) (hn : NetP w v N P) (hw : Ways w) :
    Calls Tryd.prog 20 #[v, .int .i64 x] w fun e w' => e = .returned (.int .i64 p) ∧ Below w.heap.size w w' := by
  obtain ⟨c, h1, rfl, rfl, h4⟩ := hn
  exact pair_is v c x p hp w h1 hw
/-- Halves are those at places 0 and 1. -/
theorem half_iff {n d f y : Int} (h : 4 ≤ n ∧ n ≤ 16 ∧ 0 ≤ d ∧ d < 2 ∧ 0 ≤ f ∧ f < n ∧ 0 ≤ y ∧ y < n) : placeM n d f y ≤ 1 ↔ hitB n y f = true := by
  rw [hit_iff ⟨h.1, h.2.1⟩ ⟨h.2.2.2.2.1, h.2.2.2.2.2.1⟩, place_of h]
  have hd : d = 0 ∨ d = 1 := by omega
  have e0 := mod_near n (f + 1) (by omega) (by omega)
  rcases hd with rfl | rfl
  · rw [sg0]
    have e1 := mod_near n (y - f + 0) (by omega) (by omega)
    omega
  · rw [sg1]
    have e1 := mod_near n (-(y - f) + 1) (by omega) (by omega)
    omega
/-- A node is of a pair just if it is a half of it. -/
theorem pair_iff {N : Int} {P : List Int} {y : Int} {q : Nat} (hN : 4 ≤ N ∧ N ≤ 16) (h : okP N P) (hq : q < P.length) : pairM N P y = q ↔ hitB N y (P.getD q 0) = true := by
  constructor
  · intro e
    rcases pair_cases N P y with ⟨e1, _⟩ | ⟨q', h1, h2, h3⟩
    · omega
    · obtain rfl : q' = q := by omega
      exact h3
  · exact pair_of hN h hq
end Go.Proofs.YtbfgdphfeifglaaDoor

