/-
  The contracts of the law's small, wrong, Great and lives: the chapter's example, what is wrong with a config, whether it is more than is gone through; lives: true. Nothing that was there has turned. Conditions: the config's reading; the table of directions is as the program's text lays it.
-/
import Derived.Test.YtibniadebbgjcaaDoorCf8
import Derived.Test.YtibniadebbgjcaaDoorNet2
import Derived.Test.YtibniadebbgjcaaDoorNet3
namespace Go.Proofs.YtibniadebbgjcaaDoor
open Go.RowKit Rg

/-- The chapter's example. -/
abbrev smallCf (A1 A2 A3 : Option Addr) : Cf := { N := 4, L := 120, M := 3, G := 3, F := 3, pA := A1, pn := 2, pc := 2, sA := A2, sn := 3, sc := 3, bA := A3, bn := 4, bc := 4, tA := none, tn := 0, tc := 0, P := [0, 2], S := [0, 1, 1], B := [0, 0, 0, 0], T := [] }
theorem small_any (w : World) :
    Calls Tryd.prog 33 #[] w fun e w' => ∃ A1 A2 A3, e = .returned (.agg #[.int .i64 4, .slice A1 2 2, .slice A2 3 3, .int .i64 120, .slice A3 4 4, .slice none 0 0, .int .i64 3, .int .i64 3, .int .i64 3]) ∧ CfIn w' (smallCf A1 A2 A3) ∧ Below w.heap.size w w' := by
  go_enter Tryd.func33, Tryd.ntmps33
  go_wp2_with fail
  refine bodyPost_ret (v := .agg #[.int .i64 4, .slice (some ⟨w.heap.size + 1, 0, none⟩) 2 2, .slice (some ⟨w.heap.size + 1 + 1, 0, none⟩) 3 3, .int .i64 120, .slice (some ⟨w.heap.size + 1 + 1 + 1, 0, none⟩) 4 4, .slice none 0 0, .int .i64 3, .int .i64 3, .int .i64 3]) (by simp [results, Tryd.results33, go_sem]) rfl ⟨_, _, _, rfl, ⟨?_, ?_, ?_, LiesT.nil_, by simp⟩, below_al (below_al (below_al (below_al (Below.refl _ _) _) _) _) _⟩
  · have h := ((Lies.new (w.alloc (.cells #[.int .i64 4, .slice (some ⟨w.heap.size + 1, 0, none⟩) 2 2, .slice (some ⟨w.heap.size + 1 + 1, 0, none⟩) 3 3, .int .i64 120, .slice (some ⟨w.heap.size + 1 + 1 + 1, 0, none⟩) 4 4, .slice none 0 0, .int .i64 3, .int .i64 3, .int .i64 3] 25)) 3 .i64 [0, 2] 2 rfl #[.int .i64 0, .int .i64 2] rfl).al (.cells #[.int .i64 0, .int .i64 1, .int .i64 1] 3)).al (.cells #[.int .i64 0, .int .i64 0, .int .i64 0, .int .i64 0] 3)
    simpa using h
  · have h := (Lies.new ((w.alloc (.cells #[.int .i64 4, .slice (some ⟨w.heap.size + 1, 0, none⟩) 2 2, .slice (some ⟨w.heap.size + 1 + 1, 0, none⟩) 3 3, .int .i64 120, .slice (some ⟨w.heap.size + 1 + 1 + 1, 0, none⟩) 4 4, .slice none 0 0, .int .i64 3, .int .i64 3, .int .i64 3] 25)).alloc (.cells #[.int .i64 0, .int .i64 2] 3)) 3 .i64 [0, 1, 1] 3 rfl #[.int .i64 0, .int .i64 1, .int .i64 1] rfl).al (.cells #[.int .i64 0, .int .i64 0, .int .i64 0, .int .i64 0] 3)
    simpa using h
  · have h := Lies.new (((w.alloc (.cells #[.int .i64 4, .slice (some ⟨w.heap.size + 1, 0, none⟩) 2 2, .slice (some ⟨w.heap.size + 1 + 1, 0, none⟩) 3 3, .int .i64 120, .slice (some ⟨w.heap.size + 1 + 1 + 1, 0, none⟩) 4 4, .slice none 0 0, .int .i64 3, .int .i64 3, .int .i64 3] 25)).alloc (.cells #[.int .i64 0, .int .i64 2] 3)).alloc (.cells #[.int .i64 0, .int .i64 1, .int .i64 1] 3)) 3 .i64 [0, 0, 0, 0] 4 rfl #[.int .i64 0, .int .i64 0, .int .i64 0, .int .i64 0] rfl
    simpa using h
theorem wrong_any (c : Cf) (w : World) (hc : CfIn w c) (hw : Ways w) :
    Calls Tryd.prog 32 #[.agg #[.int .i64 c.N, .slice c.pA c.pn c.pc, .slice c.sA c.sn c.sc, .int .i64 c.L, .slice c.bA c.bn c.bc, .slice c.tA c.tn c.tc, .int .i64 c.M, .int .i64 c.G, .int .i64 c.F]] w fun e w' => e = .returned (.int .i64 (newE c)) ∧ Below w.heap.size w w' := by
  go_enter Tryd.func32, Tryd.ntmps32
  go_wp2_with fail
  (with_reducible refine (new_any c _ (hc.al _) (hw.al _)).mono ?_)
  rintro e w1 ⟨b1, ⟨h0, rfl⟩ | ⟨h0, g, b, A1, A2, A3, A4, rfl, hg, hB, ho⟩⟩
  · clear h0
    go_wp2_with fail
    go_ret
    exact ⟨rfl, below_then (below_al (Below.refl _ _) _) b1⟩
  · have H0 := Lib.hid h0
    clear h0 hB ho hg
    go_wp2_with fail
    go_ret
    exact ⟨ret_int H0.out.symm, below_then (below_al (Below.refl _ _) _) b1⟩
/-- More than is gone through here? -/
def greatB (c : Cf) : Bool := decide (60 < c.pn ∨ 60 < c.sn ∨ 60 < c.bn ∨ 60 < c.tn)
theorem great_any (c : Cf) (w : World) :
    Calls Tryd.prog 9 #[.agg #[.int .i64 c.N, .slice c.pA c.pn c.pc, .slice c.sA c.sn c.sc, .int .i64 c.L, .slice c.bA c.bn c.bc, .slice c.tA c.tn c.tc, .int .i64 c.M, .int .i64 c.G, .int .i64 c.F]] w fun e w' => e = .returned (.bool (greatB c)) ∧ Below w.heap.size w w' := by
  have hb : ∀ o, Below w.heap.size w (w.alloc o) := fun o => below_al (Below.refl _ _) o
  have HB := Lib.hid hb
  clear hb
  by_cases h1 : 60 < c.pn
  · have HG := Lib.hid (show greatB c = true by simp [greatB, h1])
    go_enter Tryd.func9, Tryd.ntmps9
    go_wp2_with fail
    go_ret
    exact ⟨ret_bool (by first | exact HG.out.symm | (rw [HG.out]; simp; omega)), HB.out _⟩
  · by_cases h2 : 60 < c.sn
    · have HG := Lib.hid (show greatB c = true by simp [greatB, h2])
      go_enter Tryd.func9, Tryd.ntmps9
      go_wp2_with fail
      go_ret
      exact ⟨ret_bool (by first | exact HG.out.symm | (rw [HG.out]; simp; omega)), HB.out _⟩
    · by_cases h3 : 60 < c.bn
      · have HG := Lib.hid (show greatB c = true by simp [greatB, h3])
        go_enter Tryd.func9, Tryd.ntmps9
        go_wp2_with fail
        go_ret
        exact ⟨ret_bool (by first | exact HG.out.symm | (rw [HG.out]; simp; omega)), HB.out _⟩
      · by_cases h4 : 60 < c.tn
        · have HG := Lib.hid (show greatB c = true by simp [greatB, h4])
          go_enter Tryd.func9, Tryd.ntmps9
          go_wp2_with fail
          go_ret
          exact ⟨ret_bool (by first | exact HG.out.symm | (rw [HG.out]; simp; omega)), HB.out _⟩
        · have HG := Lib.hid (show greatB c = false by simp [greatB, h1, h2, h3, h4])
          go_enter Tryd.func9, Tryd.ntmps9
          go_wp2_with fail
          go_ret
          exact ⟨ret_bool (by first | exact HG.out.symm | (rw [HG.out]; simp; omega)), HB.out _⟩
end Go.Proofs.YtibniadebbgjcaaDoor
