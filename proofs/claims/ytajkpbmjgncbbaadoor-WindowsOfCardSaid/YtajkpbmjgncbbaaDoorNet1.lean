/-
  A net in memory, and the contracts of its kept, Round, Owner, First, Pair, Partner. Conditions: the net's reading; the table of directions is as the program's text lays it; of Round: a slot's length within its bounds.
-/
import Derived.Test.YtajkpbmjgncbbaaDoorCf7
import Derived.Test.YtajkpbmjgncbbaaDoorCf3
namespace Go.Proofs.YtajkpbmjgncbbaaDoor
open Go.RowKit Rg

/-- No config. -/
def zeroCf : Cf := ⟨0, 0, 0, 0, 0, none, 0, 0, none, 0, 0, none, 0, 0, none, 0, 0, [], [], [], []⟩
theorem zero_in (w : World) : CfIn w zeroCf := ⟨Lies.nil_, Lies.nil_, Lies.nil_, LiesT.nil_, by simp [zeroCf]⟩
/-- The pointer v is a net of the config c, or nil, and c none. -/
def NetIs (w : World) (v : Value) (c : Cf) : Prop := (v = .pointer none ∧ c = zeroCf) ∨ ∃ (g : Nat) (b : Cf), v = .pointer (some ⟨g, 0, none⟩) ∧ Blk w g 54 #[.int .i64 b.N, .slice b.pA b.pn b.pc, .slice b.sA b.sn b.sc, .int .i64 b.L, .slice b.bA b.bn b.bc, .slice b.tA b.tn b.tc, .int .i64 b.M, .int .i64 b.G, .int .i64 b.F, .int .i64 c.N, .slice c.pA c.pn c.pc, .slice c.sA c.sn c.sc, .int .i64 c.L, .slice c.bA c.bn c.bc, .slice c.tA c.tn c.tc, .int .i64 c.M, .int .i64 c.G, .int .i64 c.F] ∧ CfIn w c
theorem NetIs.on {w w' : World} {v : Value} {c : Cf} (h : NetIs w v c) (hb : Below w.heap.size w w') : NetIs w' v c := by
  rcases h with h | ⟨g, b, e, hB, hc⟩
  · exact .inl h
  · exact .inr ⟨g, b, e, hB.on hb, hc.on hb⟩
theorem NetIs.in_ {w : World} {v : Value} {c : Cf} (h : NetIs w v c) : CfIn w c := by
  rcases h with ⟨_, rfl⟩ | ⟨g, b, e, hB, hc⟩
  · exact zero_in w
  · exact hc

set_option maxRecDepth 100000 in
theorem field_pairs (c : Cf) (w : World) : (Instr.field 25 (.agg #[.int .i64 c.N, .slice c.pA c.pn c.pc, .slice c.sA c.sn c.sc, .int .i64 c.L, .slice c.bA c.bn c.bc, .slice c.tA c.tn c.tc, .int .i64 c.M, .int .i64 c.G, .int .i64 c.F]) 1).run Tryd.prog w = .ok (.slice c.pA c.pn c.pc) w := rfl
set_option maxRecDepth 100000 in
theorem field_slots (c : Cf) (w : World) : (Instr.field 25 (.agg #[.int .i64 c.N, .slice c.pA c.pn c.pc, .slice c.sA c.sn c.sc, .int .i64 c.L, .slice c.bA c.bn c.bc, .slice c.tA c.tn c.tc, .int .i64 c.M, .int .i64 c.G, .int .i64 c.F]) 2).run Tryd.prog w = .ok (.slice c.sA c.sn c.sc) w := rfl

theorem kept_net (v : Value) (c : Cf) (w : World) (hn : NetIs w v c) :
    Calls Tryd.prog 33 #[v] w fun e w' => e = .returned (.agg #[.int .i64 c.N, .slice c.pA c.pn c.pc, .slice c.sA c.sn c.sc, .int .i64 c.L, .slice c.bA c.bn c.bc, .slice c.tA c.tn c.tc, .int .i64 c.M, .int .i64 c.G, .int .i64 c.F]) ∧ Below w.heap.size w w' := by
  rcases hn with ⟨rfl, rfl⟩ | ⟨g, b, rfl, hB, hc⟩
  · go_enter Tryd.func33, Tryd.ntmps33
    go_wp2_with fail
    exact bodyPost_ret (v := .agg #[.int .i64 0, .slice none 0 0, .slice none 0 0, .int .i64 0, .slice none 0 0, .slice none 0 0, .int .i64 0, .int .i64 0, .int .i64 0]) (by simp [results, Tryd.results33, go_sem]) rfl ⟨rfl, by first | exact below_al (Below.refl _ _) _ | exact (Below.refl _ _).alloc (Nat.le_refl _) _⟩
  · have c9 := hB.cell 9
    have c10 := hB.cell 10
    have c11 := hB.cell 11
    have c12 := hB.cell 12
    have c13 := hB.cell 13
    have c14 := hB.cell 14
    have c15 := hB.cell 15
    have c16 := hB.cell 16
    have c17 := hB.cell 17
    have hg := hB.lt
    simp at c9 c10 c11 c12 c13 c14 c15 c16 c17
    clear hc hB
    go_enter Tryd.func33, Tryd.ntmps33
    go_wp2_with fail
    refine bodyPost_ret (v := .agg #[.int .i64 c.N, .slice c.pA c.pn c.pc, .slice c.sA c.sn c.sc, .int .i64 c.L, .slice c.bA c.bn c.bc, .slice c.tA c.tn c.tc, .int .i64 c.M, .int .i64 c.G, .int .i64 c.F]) (by simp [results, Tryd.results33, go_sem]) rfl ⟨rfl, ?_⟩
    first | exact below_al (Below.refl _ _) _ | exact (Below.refl _ _).alloc (Nat.le_refl _) _
end Go.Proofs.YtajkpbmjgncbbaaDoor

