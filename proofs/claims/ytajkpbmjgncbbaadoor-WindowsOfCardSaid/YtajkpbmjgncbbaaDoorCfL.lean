/-
  The contracts of the law's small, wrong, Great and lives: the chapter's example, what is wrong with a config, whether it is more than is gone through; lives: true. Nothing that was there has turned. Conditions: the config's reading; the table of directions is as the program's text lays it.
-/
import Derived.Test.YtajkpbmjgncbbaaDoorCf8
import Derived.Test.YtajkpbmjgncbbaaDoorNet2
import Derived.Test.YtajkpbmjgncbbaaDoorNet3
namespace Go.Proofs.YtajkpbmjgncbbaaDoor
open Go.RowKit Rg

/-- The chapter's example. -/
abbrev smallCf (A1 A2 A3 : Option Addr) : Cf := { N := 4, L := 120, M := 3, G := 3, F := 3, pA := A1, pn := 2, pc := 2, sA := A2, sn := 3, sc := 3, bA := A3, bn := 4, bc := 4, tA := none, tn := 0, tc := 0, P := [0, 2], S := [0, 1, 1], B := [0, 0, 0, 0], T := [] }
/-- More than is gone through here? -/
def greatB (c : Cf) : Bool := decide (60 < c.pn ∨ 60 < c.sn ∨ 60 < c.bn ∨ 60 < c.tn)
theorem great_any (c : Cf) (w : World) :
    Calls Tryd.prog 22 #[.agg #[.int .i64 c.N, .slice c.pA c.pn c.pc, .slice c.sA c.sn c.sc, .int .i64 c.L, .slice c.bA c.bn c.bc, .slice c.tA c.tn c.tc, .int .i64 c.M, .int .i64 c.G, .int .i64 c.F]] w fun e w' => e = .returned (.bool (greatB c)) ∧ Below w.heap.size w w' := by
  have hb : ∀ o, Below w.heap.size w (w.alloc o) := fun o => below_al (Below.refl _ _) o
  have HB := Lib.hid hb
  clear hb
  by_cases h1 : 60 < c.pn
  · have HG := Lib.hid (show greatB c = true by simp [greatB, h1])
    go_enter Tryd.func22, Tryd.ntmps22
    go_wp2_with fail
    go_ret
    exact ⟨ret_bool (by first | exact HG.out.symm | (rw [HG.out]; simp; omega)), HB.out _⟩
  · by_cases h2 : 60 < c.sn
    · have HG := Lib.hid (show greatB c = true by simp [greatB, h2])
      go_enter Tryd.func22, Tryd.ntmps22
      go_wp2_with fail
      go_ret
      exact ⟨ret_bool (by first | exact HG.out.symm | (rw [HG.out]; simp; omega)), HB.out _⟩
    · by_cases h3 : 60 < c.bn
      · have HG := Lib.hid (show greatB c = true by simp [greatB, h3])
        go_enter Tryd.func22, Tryd.ntmps22
        go_wp2_with fail
        go_ret
        exact ⟨ret_bool (by first | exact HG.out.symm | (rw [HG.out]; simp; omega)), HB.out _⟩
      · by_cases h4 : 60 < c.tn
        · have HG := Lib.hid (show greatB c = true by simp [greatB, h4])
          go_enter Tryd.func22, Tryd.ntmps22
          go_wp2_with fail
          go_ret
          exact ⟨ret_bool (by first | exact HG.out.symm | (rw [HG.out]; simp; omega)), HB.out _⟩
        · have HG := Lib.hid (show greatB c = false by simp [greatB, h1, h2, h3, h4])
          go_enter Tryd.func22, Tryd.ntmps22
          go_wp2_with fail
          go_ret
          exact ⟨ret_bool (by first | exact HG.out.symm | (rw [HG.out]; simp; omega)), HB.out _⟩
end Go.Proofs.YtajkpbmjgncbbaaDoor

