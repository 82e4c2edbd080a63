/-
  The contracts of package windows' size, placed, Of, At, Pass. Conditions: the net's reading; both tables are as the program's text lays them.
-/
import Derived.Test.YtajkpbmjgncbbaaDoorWnM
import Derived.Test.YtajkpbmjgncbbaaDoorWnL
import Derived.Test.YtajkpbmjgncbbaaDoorNet3
import Derived.Lib.MinMax
import Derived.Laws.StructEq
namespace Go.Proofs.YtajkpbmjgncbbaaDoor
open Go.RowKit Rg
set_option linter.unusedVariables false

/-- The pointer v is a net of so many nodes and of these pairs, or none: no nodes, no pairs. -/
def NetP (w : World) (v : Value) (N : Int) (P : List Int) : Prop := ∃ c : Cf, NetIs w v c ∧ c.N = N ∧ c.P = P ∧ (N = 0 ∨ 4 ≤ N ∧ N ≤ 16)
theorem NetP.on {w w' : World} {v : Value} {N : Int} {P : List Int} (h : NetP w v N P) (hb : Below w.heap.size w w') : NetP w' v N P := by
  obtain ⟨c, h1, h2⟩ := h
  exact ⟨c, h1.on hb, h2⟩
theorem NetP.al {w : World} {v : Value} {N : Int} {P : List Int} (h : NetP w v N P) (o : Obj) : NetP (w.alloc o) v N P := h.on ((Below.refl _ _).alloc (Nat.le_refl _) o)
theorem NetP.bd {w : World} {v : Value} {N : Int} {P : List Int} (h : NetP w v N P) : N = 0 ∨ 4 ≤ N ∧ N ≤ 16 := by
  obtain ⟨c, _, _, _, h⟩ := h
  exact h
set_option maxRecDepth 100000 in
theorem field_nodes (c : Cf) (w : World) : (Instr.field 25 (.agg #[.int .i64 c.N, .slice c.pA c.pn c.pc, .slice c.sA c.sn c.sc, .int .i64 c.L, .slice c.bA c.bn c.bc, .slice c.tA c.tn c.tc, .int .i64 c.M, .int .i64 c.G, .int .i64 c.F]) 0).run Tryd.prog w = .ok (.int .i64 c.N) w := rfl

theorem size_is (v : Value) (N : Int) (P : List Int) (w : World) (hn : NetP w v N P) :
    Calls Tryd.prog 25 #[v] w fun e w' => e = .returned (.int .i64 N) ∧ Below w.heap.size w w' := by
  obtain ⟨c, h1, rfl, rfl, h4⟩ := hn
  have hfd := fun (A1 A2 A3 A4 : Option Addr) => field_nodes (c.to A1 A2 A3 A4)
  clear h4
  go_enter Tryd.func25, Tryd.ntmps25
  go_wp2_with (go_at_call 40; (with_reducible refine (net_given v c w h1).mono ?_); rintro e w1 ⟨A1, A2, A3, A4, rfl, o1, b1⟩; have hf := fun W => hfd A1 A2 A3 A4 W)
  go_ret
  exact ⟨rfl, b1⟩

theorem role_at {w : World} (hw : Roles w) (k : Int) (h0 : 0 ≤ k) : ∃ q : Nat, min k 3 = (q : Int) ∧ q < 4 ∧ w.cell? ⟨1, q, none⟩ = some (.int .u8 (roleM k)) := by
  obtain ⟨g0, g1, g2, g3, g4⟩ := hw
  by_cases h3 : 3 ≤ k
  · exact ⟨3, by omega, by omega, by rw [g4, roleM, if_neg (by omega), if_neg (by omega)]⟩
  · have h : k = 0 ∨ k = 1 ∨ k = 2 := by omega
    rcases h with rfl | rfl | rfl
    · exact ⟨0, by omega, by omega, g1⟩
    · exact ⟨1, by omega, by omega, g2⟩
    · exact ⟨2, by omega, by omega, g3⟩
theorem placed_any (k : Int) (w : World) (hw : Roles w) (h0 : 0 ≤ k) (h1 : k ≤ 15) :
    Calls Tryd.prog 28 #[.int .i64 k] w fun e w' => e = .returned (.agg #[.int .u8 (wnM k).r, .int .i64 (wnM k).p, .int .i64 (wnM k).b, .int .i64 (wnM k).e]) ∧ Below w.heap.size w w' := by
  obtain ⟨q, hq, hq4, hc⟩ := role_at (hw.on (below_al (Below.refl w.heap.size w) (.cells #[.int .u8 0, .int .i64 0, .int .i64 0, .int .i64 0] 33))) k h0
  have hg : 1 < w.heap.size := hw.1
  have hb := fun v => below_al (Below.refl w.heap.size w) (.cells v 33)
  have hw1 : IntKind.i64.wrap (1 + k) = 1 + k := IntWalk.i64_in _ (by omega)
  have hw2 : IntKind.i64.wrap (1 + k + 114) = 1 + k + 114 := IntWalk.i64_in _ (by omega)
  obtain ⟨r, hr⟩ : ∃ r, r = roleM k := ⟨_, rfl⟩
  rw [← hr] at hc
  have HR := Lib.hid hr
  clear hr hw
  go_enter Tryd.func28, Tryd.ntmps28
  go_wp2_with fail
  refine bodyPost_ret (v := .agg #[.int .u8 r, .int .i64 k, .int .i64 (1 + k), .int .i64 (1 + k + 114)]) (by simp [results, Tryd.results28, go_sem]) rfl ⟨?_, ?_⟩
  · rw [HR.out]; rfl
  · exact hb _
end Go.Proofs.YtajkpbmjgncbbaaDoor

