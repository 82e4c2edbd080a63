/-
  A config as it came in, and the contracts of Great and New at what is known of it. Conditions: those that are named.
-/
import Derived.Test.YtkejpkcaojidaaaGreatDoorCf8
import Derived.Test.YtkejpkcaojidaaaGreatDoorNet3
namespace Go.Proofs.YtkejpkcaojidaaaGreatDoor
set_option linter.unusedVariables false
set_option linter.unusedSimpArgs false
open Go.RowKit Rg

/-- More than is gone through here? -/
def greatB (c : Cf) : Bool := decide (60 < c.pn ∨ 60 < c.sn ∨ 60 < c.bn ∨ 60 < c.tn)
theorem great_any (c : Cf) (w : World) :
    Calls Tryz.prog 19 #[.agg #[.int .i64 c.N, .slice c.pA c.pn c.pc, .slice c.sA c.sn c.sc, .int .i64 c.L, .slice c.bA c.bn c.bc, .slice c.tA c.tn c.tc, .int .i64 c.M, .int .i64 c.G, .int .i64 c.F]] w fun e w' => e = .returned (.bool (greatB c)) ∧ Below w.heap.size w w' := by
  have hb : ∀ o, Below w.heap.size w (w.alloc o) := fun o => below_al (Below.refl _ _) o
  have HB := Lib.hid hb
  clear hb
  by_cases h1 : 60 < c.pn
  · have HG := Lib.hid (show greatB c = true by simp [greatB, h1])
    go_enter Tryz.func19, Tryz.ntmps19
    go_wp2_with fail
    go_ret
    exact ⟨ret_bool (by first | exact HG.out.symm | (rw [HG.out]; simp; omega)), HB.out _⟩
  · by_cases h2 : 60 < c.sn
    · have HG := Lib.hid (show greatB c = true by simp [greatB, h2])
      go_enter Tryz.func19, Tryz.ntmps19
      go_wp2_with fail
      go_ret
      exact ⟨ret_bool (by first | exact HG.out.symm | (rw [HG.out]; simp; omega)), HB.out _⟩
    · by_cases h3 : 60 < c.bn
      · have HG := Lib.hid (show greatB c = true by simp [greatB, h3])
        go_enter Tryz.func19, Tryz.ntmps19
        go_wp2_with fail
        go_ret
        exact ⟨ret_bool (by first | exact HG.out.symm | (rw [HG.out]; simp; omega)), HB.out _⟩
      · by_cases h4 : 60 < c.tn
        · have HG := Lib.hid (show greatB c = true by simp [greatB, h4])
          go_enter Tryz.func19, Tryz.ntmps19
          go_wp2_with fail
          go_ret
          exact ⟨ret_bool (by first | exact HG.out.symm | (rw [HG.out]; simp; omega)), HB.out _⟩
        · have HG := Lib.hid (show greatB c = false by simp [greatB, h1, h2, h3, h4])
          go_enter Tryz.func19, Tryz.ntmps19
          go_wp2_with fail
          go_ret
          exact ⟨ret_bool (by first | exact HG.out.symm | (rw [HG.out]; simp; omega)), HB.out _⟩
end Go.Proofs.YtkejpkcaojidaaaGreatDoor

namespace Go.Proofs.YtkejpkcaojidaaaGreatDoor
open Go.RowKit Rg

theorem NewPost.yes {c : Cf} {w : World} {e : Ending} {w' : World} (h : NewPost c w e w') (h0 : newE c = 0) : ∃ (g : Nat) (A1 A2 A3 A4 : Option Addr), e = .returned (.tuple #[.pointer (some ⟨g, 0, none⟩), .int .i64 0]) ∧ w.heap.size ≤ g ∧ NetIs w' (.pointer (some ⟨g, 0, none⟩)) (c.to A1 A2 A3 A4) ∧ CfOwn w' w.heap.size (c.to A1 A2 A3 A4) ∧ Below w.heap.size w w' := by
  obtain ⟨hb, ⟨h1, _⟩ | ⟨_, g, b, A1, A2, A3, A4, rfl, hg, hB, ho⟩⟩ := h
  · exact absurd h0 h1
  · exact ⟨g, A1, A2, A3, A4, rfl, hg, .inr ⟨g, b, rfl, ⟨_, [], hB⟩, ho.in_⟩, ho, hb⟩
theorem new_yes (c : Cf) (w : World) (hc : CfIn w c) (hw : Ways w) (h0 : newE c = 0) :
    Calls Tryz.prog 21 #[.agg #[.int .i64 c.N, .slice c.pA c.pn c.pc, .slice c.sA c.sn c.sc, .int .i64 c.L, .slice c.bA c.bn c.bc, .slice c.tA c.tn c.tc, .int .i64 c.M, .int .i64 c.G, .int .i64 c.F]] w fun e w' => ∃ (g : Nat) (A1 A2 A3 A4 : Option Addr), e = .returned (.tuple #[.pointer (some ⟨g, 0, none⟩), .int .i64 0]) ∧ w.heap.size ≤ g ∧ NetIs w' (.pointer (some ⟨g, 0, none⟩)) (c.to A1 A2 A3 A4) ∧ CfOwn w' w.heap.size (c.to A1 A2 A3 A4) ∧ Below w.heap.size w w' :=
  (new_any c w hc hw).mono fun _ _ h => h.yes h0
theorem partner_is (v : Value) (c : Cf) (x r : Int) (hr : partM c.N c.P x = r) (w : World) (hn : NetIs w v c) (hw : Ways w) :
    Calls Tryz.prog 44 #[v, .int .i64 x] w fun e w' => e = .returned (.int .i64 r) ∧ Below w.heap.size w w' := by
  subst hr; exact net_partner v c x w hn hw
end Go.Proofs.YtkejpkcaojidaaaGreatDoor

namespace Go.Proofs.YtkejpkcaojidaaaGreatDoor
open Go.RowKit Rg

/-- A config as it came in: its lists may be of whatever length. -/
structure CfRaw (w : World) (c : Cf) : Prop where
  p : Lies .i64 w w.heap.size c.pA c.pn c.P
  s : Lies .i64 w w.heap.size c.sA c.sn c.S
  b : Lies .i64 w w.heap.size c.bA c.bn c.B
  t : LiesT w w.heap.size c.tA c.tn c.T
theorem CfRaw.small {w : World} {c : Cf} (h : CfRaw w c) (hg : greatB c = false) : CfIn w c ∧ c.pn ≤ 60 ∧ c.sn ≤ 60 ∧ c.bn ≤ 60 ∧ c.tn ≤ 60 := by
  simp only [greatB, decide_eq_false_iff_not] at hg
  exact ⟨⟨h.p, h.s, h.b, h.t, by omega⟩, by omega⟩
theorem great_is (c : Cf) (b : Bool) (hb : greatB c = b) (w : World) :
    Calls Tryz.prog 19 #[.agg #[.int .i64 c.N, .slice c.pA c.pn c.pc, .slice c.sA c.sn c.sc, .int .i64 c.L, .slice c.bA c.bn c.bc, .slice c.tA c.tn c.tc, .int .i64 c.M, .int .i64 c.G, .int .i64 c.F]] w fun e w' => e = .returned (.bool b) ∧ Below w.heap.size w w' := by
  subst hb; exact great_any c w
end Go.Proofs.YtkejpkcaojidaaaGreatDoor

