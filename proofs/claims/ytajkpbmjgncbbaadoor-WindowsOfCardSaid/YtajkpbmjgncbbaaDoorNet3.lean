/-
  The contracts of a net's Next and Given. Conditions: the net's reading.
-/
import Derived.Test.YtajkpbmjgncbbaaDoorNet1
namespace Go.Proofs.YtajkpbmjgncbbaaDoor
open Go.RowKit Rg

/-- The owner of a slot that is counted from 0 on, round by round. -/
def ownM (S : List Int) (s : Int) : Int := S.getD (s % (S.length : Int)).toNat 0
/-- A pair's next slot; -1: none. -/
def nextM (S : List Int) (slot p : Int) : Int := if slot < 0 ∨ 1099511627776 < slot then -1 else match (List.range S.length).find? (fun (j : Nat) => decide (ownM S (slot + j) = p)) with
  | some j => slot + (j : Int)
  | none => -1
theorem next_out {S : List Int} {slot p : Int} (h : slot < 0 ∨ 1099511627776 < slot) : nextM S slot p = -1 := by rw [nextM, if_pos h]
theorem next_hit {S : List Int} {slot p : Int} (h : ¬ (slot < 0 ∨ 1099511627776 < slot)) (j : Nat) (hj : j < S.length) (h0 : ∀ i : Nat, i < j → ¬ ownM S (slot + i) = p) (h1 : ownM S (slot + j) = p) : nextM S slot p = slot + j := by
  have : (List.range S.length).find? (fun (j : Nat) => decide (ownM S (slot + j) = p)) = some j := by
    rw [List.find?_range_eq_some]
    refine ⟨by simpa using h1, by simpa using hj, fun i hi => by simpa using h0 i hi⟩
  rw [nextM, if_neg h, this]
theorem next_none {S : List Int} {slot p : Int} (h : ¬ (slot < 0 ∨ 1099511627776 < slot)) (h0 : ∀ i : Nat, i < S.length → ¬ ownM S (slot + i) = p) : nextM S slot p = -1 := by
  have : (List.range S.length).find? (fun (j : Nat) => decide (ownM S (slot + j) = p)) = none := by
    rw [List.find?_range_eq_none]
    intro i hi
    simpa using h0 i hi
  rw [nextM, if_neg h, this]

theorem net_given (v : Value) (c : Cf) (w : World) (hn : NetIs w v c) :
    Calls Tryd.prog 40 #[v] w fun e w' => ∃ A1 A2 A3 A4, e = .returned (.agg #[.int .i64 c.N, .slice A1 c.pn c.pn, .slice A2 c.sn c.sn, .int .i64 c.L, .slice A3 c.bn c.bn, .slice A4 c.tn c.tn, .int .i64 c.M, .int .i64 c.G, .int .i64 c.F]) ∧ CfOwn w' w.heap.size (c.to A1 A2 A3 A4) ∧ Below w.heap.size w w' := by
  have hn1 := hn.on (below_al (Below.refl _ w) (.cells #[.int .i64 0, .slice none 0 0, .slice none 0 0, .int .i64 0, .slice none 0 0, .slice none 0 0, .int .i64 0, .int .i64 0, .int .i64 0] 25))
  clear hn
  go_enter Tryd.func40, Tryd.ntmps40
  go_wp2_with (first
    | (go_at_call 33; (with_reducible refine (kept_net v c _ hn1).mono ?_); rintro e w1 ⟨rfl, b1⟩)
    | (go_at_call 39; (with_reducible refine (copied_any c w1 (hn1.on b1).in_).mono ?_); rintro e w2 ⟨A1, A2, A3, A4, rfl, o2, b2⟩
       have hZ := ((Blk.new w 25 #[.int .i64 0, .slice none 0 0, .slice none 0 0, .int .i64 0, .slice none 0 0, .slice none 0 0, .int .i64 0, .int .i64 0, .int .i64 0]).on b1).on b2
       have hz1 := ((Blk.new w 25 #[.int .i64 0, .slice none 0 0, .slice none 0 0, .int .i64 0, .slice none 0 0, .slice none 0 0, .int .i64 0, .int .i64 0, .int .i64 0]).on b1).lt
       have hfz := hZ.frozen
       have z0 := hZ.cell 0
       have z1 := hZ.cell 1
       have z2 := hZ.cell 2
       have z3 := hZ.cell 3
       have z4 := hZ.cell 4
       have z5 := hZ.cell 5
       have z6 := hZ.cell 6
       have z7 := hZ.cell 7
       have z8 := hZ.cell 8
       simp at z0 z1 z2 z3 z4 z5 z6 z7 z8
       have hb2 := below_then (below_then (below_al (Below.refl _ w) _) b1) b2
       clear b1 b2 hn1 hZ))
  refine bodyPost_ret (v := .agg #[.int .i64 c.N, .slice A1 c.pn c.pn, .slice A2 c.sn c.sn, .int .i64 c.L, .slice A3 c.bn c.bn, .slice A4 c.tn c.tn, .int .i64 c.M, .int .i64 c.G, .int .i64 c.F]) (by simp [results, Tryd.results40, go_sem, z0, z1, z2, z3, z4, z5, z6, z7, z8]) rfl ⟨A1, A2, A3, A4, rfl, CfOwn.mono ((((((((((o2.far hz1 _).far hz1 _).far hz1 _).far hz1 _).far hz1 _).far hz1 _).far hz1 _).far hz1 _).far hz1 _)) (by omega), ?_⟩
  exact (((((((((hb2.setCell (by simp) _).setCell (by simp) _).setCell (by simp) _).setCell (by simp) _).setCell (by simp) _).setCell (by simp) _).setCell (by simp) _).setCell (by simp) _).setCell (by simp) _)
end Go.Proofs.YtajkpbmjgncbbaaDoor

