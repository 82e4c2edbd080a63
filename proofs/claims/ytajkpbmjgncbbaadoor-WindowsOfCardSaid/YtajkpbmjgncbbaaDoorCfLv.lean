/-
  The contract of the law's lives: the chapter's examples: true; nothing that was there has turned. Condition: the table of directions is as the program's text lays it.
-/
import Derived.Test.YtajkpbmjgncbbaaDoorCfL
namespace Go.Proofs.YtajkpbmjgncbbaaDoor
open Go.RowKit Rg

theorem NewPost.yes {c : Cf} {w : World} {e : Ending} {w' : World} (h : NewPost c w e w') (h0 : newE c = 0) : ∃ (g : Nat) (A1 A2 A3 A4 : Option Addr), e = .returned (.tuple #[.pointer (some ⟨g, 0, none⟩), .int .i64 0]) ∧ w.heap.size ≤ g ∧ NetIs w' (.pointer (some ⟨g, 0, none⟩)) (c.to A1 A2 A3 A4) ∧ CfOwn w' w.heap.size (c.to A1 A2 A3 A4) ∧ Below w.heap.size w w' := by
  obtain ⟨hb, ⟨h1, _⟩ | ⟨_, g, b, A1, A2, A3, A4, rfl, hg, hB, ho⟩⟩ := h
  · exact absurd h0 h1
  · exact ⟨g, A1, A2, A3, A4, rfl, hg, .inr ⟨g, b, rfl, hB, ho.in_⟩, ho, hb⟩
theorem new_yes (c : Cf) (w : World) (hc : CfIn w c) (hw : Ways w) (h0 : newE c = 0) :
    Calls Tryd.prog 24 #[.agg #[.int .i64 c.N, .slice c.pA c.pn c.pc, .slice c.sA c.sn c.sc, .int .i64 c.L, .slice c.bA c.bn c.bc, .slice c.tA c.tn c.tc, .int .i64 c.M, .int .i64 c.G, .int .i64 c.F]] w fun e w' => ∃ (g : Nat) (A1 A2 A3 A4 : Option Addr), e = .returned (.tuple #[.pointer (some ⟨g, 0, none⟩), .int .i64 0]) ∧ w.heap.size ≤ g ∧ NetIs w' (.pointer (some ⟨g, 0, none⟩)) (c.to A1 A2 A3 A4) ∧ CfOwn w' w.heap.size (c.to A1 A2 A3 A4) ∧ Below w.heap.size w w' :=
  (new_any c w hc hw).mono fun _ _ h => h.yes h0
theorem new_no (c : Cf) (w : World) (hc : CfIn w c) (hw : Ways w) (h0 : newE c ≠ 0) :
    Calls Tryd.prog 24 #[.agg #[.int .i64 c.N, .slice c.pA c.pn c.pc, .slice c.sA c.sn c.sc, .int .i64 c.L, .slice c.bA c.bn c.bc, .slice c.tA c.tn c.tc, .int .i64 c.M, .int .i64 c.G, .int .i64 c.F]] w fun e w' => e = .returned (.tuple #[.pointer none, .int .i64 (newE c)]) ∧ Below w.heap.size w w' :=
  (new_any c w hc hw).mono fun _ _ h => by
    obtain ⟨hb, ⟨_, e⟩ | ⟨h1, _⟩⟩ := h
    · exact ⟨e, hb⟩
    · exact absurd h1 h0
theorem small_ok (A1 A2 A3 : Option Addr) : newE (smallCf A1 A2 A3) = 0 := rfl
theorem small_long (A1 A2 A3 : Option Addr) : newE { smallCf A1 A2 A3 with L := 119 } = 1 := rfl
theorem small_many (A1 A2 A3 : Option Addr) : newE { smallCf A1 A2 A3 with N := 17 } = 3 := rfl
theorem small_near (A1 A2 A3 : Option Addr) : newE { smallCf A1 A2 A3 with P := [0, 1] } = 1 := rfl
theorem small_over (A1 A2 A3 : Option Addr) : newE { smallCf A1 A2 A3 with P := [0, 3] } = 1 := rfl
theorem ex_owner : atM [0, 1, 1] 2 = 1 := by decide
theorem ex_pair : pairM 4 [0, 2] 3 = 1 := by decide
theorem ex_partner : partM 4 [0, 2] 3 = 2 := by decide
theorem ex_next : nextM [0, 1, 1] 3 1 = 4 := by decide
end Go.Proofs.YtajkpbmjgncbbaaDoor

