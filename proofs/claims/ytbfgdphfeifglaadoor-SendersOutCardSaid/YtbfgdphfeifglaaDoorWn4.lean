/-
  The contract of the law's lives: the chapter's examples: true; the law's Net as windows take it. Conditions: both tables are as the program's text lays them.
-/
import Derived.Test.YtbfgdphfeifglaaDoorWn3
import Derived.Test.YtbfgdphfeifglaaDoorLawNet
namespace Go.Proofs.YtbfgdphfeifglaaDoor
open Go.RowKit Rg
set_option linter.unusedVariables false

theorem netP_of {w : World} {v : Value} {c : Cf} {A1 A2 A3 A4 : Option Addr} (h : NetIs w v (c.to A1 A2 A3 A4)) (h0 : newE c = 0) : NetP w v c.N c.P := ⟨_, h, rfl, rfl, .inr (newE_ok.1 h0).nodes⟩
theorem netWn (c : Cf) (w : World) (hw : Laid2 w) (hc : CfIn w c) (hg : greatB c = false) (h0 : newE c = 0) :
    Calls Tryd.prog 7 #[.agg #[.int .i64 c.N, .slice c.pA c.pn c.pc, .slice c.sA c.sn c.sc, .int .i64 c.L, .slice c.bA c.bn c.bc, .slice c.tA c.tn c.tc, .int .i64 c.M, .int .i64 c.G, .int .i64 c.F]] w fun e w' => ∃ g : Nat, e = .returned (.pointer (some ⟨g, 0, none⟩)) ∧ NetP w' (.pointer (some ⟨g, 0, none⟩)) c.N c.P ∧ Below w.heap.size w w' :=
  (netYes c w hw.ways hc hg h0).mono fun e w' ⟨g, A1, A2, A3, A4, he, hn, hb⟩ => ⟨g, he, netP_of hn h0, hb⟩

/-- The chapter's example. -/
abbrev wnCf (A1 A2 A3 : Option Addr) : Cf := { N := 4, L := 120, M := 3, G := 3, F := 3, pA := A1, pn := 2, pc := 2, sA := A2, sn := 2, sc := 2, bA := A3, bn := 4, bc := 4, tA := none, tn := 0, tc := 0, P := [0, 2], S := [0, 1], B := [0, 0, 0, 0], T := [] }
theorem wnCf_ok (A1 A2 A3 : Option Addr) : newE (wnCf A1 A2 A3) = 0 := rfl
theorem wex1 : ofW 4 [0, 2] 0 0 3 = ⟨3, 3, 4, 118⟩ := rfl
theorem wex1E : ofWE 4 [0, 2] 0 0 3 = 0 := rfl
theorem wex2 : ofW 4 [0, 2] 1 0 3 = ⟨2, 2, 3, 117⟩ := rfl
theorem wex2E : ofWE 4 [0, 2] 1 0 3 = 0 := rfl
theorem wex3 : guM 4 0 (atM [0, 2] 0) = 2 := rfl
theorem wex4 : guM 4 1 (atM [0, 2] 0) = 3 := rfl
theorem wex5 : ovM 4 = 118 := rfl
end Go.Proofs.YtbfgdphfeifglaaDoor

