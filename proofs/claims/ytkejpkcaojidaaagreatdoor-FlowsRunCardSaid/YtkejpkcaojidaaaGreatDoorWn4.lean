/-
  The contract of the law's lives: the chapter's examples: true; the law's Net as windows take it. Conditions: both tables are as the program's text lays them.
-/
import Derived.Test.YtkejpkcaojidaaaGreatDoorWn3
import Derived.Test.YtkejpkcaojidaaaGreatDoorLawNet
import Derived.Test.YtkejpkcaojidaaaGreatDoorCf8
namespace Go.Proofs.YtkejpkcaojidaaaGreatDoor
set_option linter.unusedVariables false
set_option linter.unusedSimpArgs false
open Go.RowKit Rg

/-- Halves are those at places 0 and 1. -/
theorem half_iff {n d f y : Int} (h : 4 ≤ n ∧ n ≤ 16 ∧ 0 ≤ d ∧ d < 2 ∧ 0 ≤ f ∧ f < n ∧ 0 ≤ y ∧ y < n) : placeM n d f y ≤ 1 ↔ hitB n y f = true := by
  rw [hit_iff ⟨h.1, h.2.1⟩ ⟨h.2.2.2.2.1, h.2.2.2.2.2.1⟩, place_of h]
  have hd : d = 0 ∨ d = 1 := by omega
  have e0 := mod_near n (f + 1) (by omega) (by omega)
  rcases hd with rfl | rfl
  · rw [sg0]
    have e1 := mod_near n (y - f + 0) (by omega) (by omega)
    omega
  · rw [sg1]
    have e1 := mod_near n (-(y - f) + 1) (by omega) (by omega)
    omega
/-- A node is of a pair just if it is a half of it. -/
theorem pair_iff {N : Int} {P : List Int} {y : Int} {q : Nat} (hN : 4 ≤ N ∧ N ≤ 16) (h : okP N P) (hq : q < P.length) : pairM N P y = q ↔ hitB N y (P.getD q 0) = true := by
  constructor
  · intro e
    rcases pair_cases N P y with ⟨e1, _⟩ | ⟨q', h1, h2, h3⟩
    · omega
    · obtain rfl : q' = q := by omega
      exact h3
  · exact pair_of hN h hq
end Go.Proofs.YtkejpkcaojidaaaGreatDoor

namespace Go.Proofs.YtkejpkcaojidaaaGreatDoor
open Go.RowKit Rg
set_option linter.unusedVariables false

theorem netP_of {w : World} {v : Value} {c : Cf} {A1 A2 A3 A4 : Option Addr} (h : NetIs w v (c.to A1 A2 A3 A4)) (h0 : newE c = 0) : NetP w v c.N c.P := ⟨_, h, rfl, rfl, .inr (newE_ok.1 h0).nodes⟩
theorem netWn (c : Cf) (w : World) (hw : Laid2 w) (hc : CfIn w c) (hg : greatB c = false) (h0 : newE c = 0) :
    Calls Tryz.prog 4 #[.agg #[.int .i64 c.N, .slice c.pA c.pn c.pc, .slice c.sA c.sn c.sc, .int .i64 c.L, .slice c.bA c.bn c.bc, .slice c.tA c.tn c.tc, .int .i64 c.M, .int .i64 c.G, .int .i64 c.F]] w fun e w' => ∃ g : Nat, e = .returned (.pointer (some ⟨g, 0, none⟩)) ∧ NetP w' (.pointer (some ⟨g, 0, none⟩)) c.N c.P ∧ Below w.heap.size w w' :=
  (netYes c w hw.ways hc hg h0).mono fun e w' ⟨g, A1, A2, A3, A4, he, hn, hb⟩ => ⟨g, he, netP_of hn h0, hb⟩

/-- The chapter's example. -/
abbrev wnCf (A1 A2 A3 : Option Addr) : Cf := { N := 4, L := 120, M := 3, G := 3, F := 3, pA := A1, pn := 2, pc := 2, sA := A2, sn := 2, sc := 2, bA := A3, bn := 4, bc := 4, tA := none, tn := 0, tc := 0, P := [0, 2], S := [0, 1], B := [0, 0, 0, 0], T := [] }
theorem wnCf_ok (A1 A2 A3 : Option Addr) : newE (wnCf A1 A2 A3) = 0 := rfl
end Go.Proofs.YtkejpkcaojidaaaGreatDoor

