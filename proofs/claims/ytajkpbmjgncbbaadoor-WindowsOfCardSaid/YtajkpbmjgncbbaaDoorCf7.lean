/-
  The contract of package configs' copied: the same config, its lists in memory of their own; nothing that was there has turned. Conditions: the config's reading.
-/
import Derived.Test.YtajkpbmjgncbbaaDoorCf5
import Derived.Test.YtajkpbmjgncbbaaDoorCf3
namespace Go.Proofs.YtajkpbmjgncbbaaDoor
open Go.RowKit Rg

set_option maxRecDepth 100000 in
theorem copied_any (c : Cf) (w : World) (hc : CfIn w c) :
    Calls Tryd.prog 39 #[.agg #[.int .i64 c.N, .slice c.pA c.pn c.pc, .slice c.sA c.sn c.sc, .int .i64 c.L, .slice c.bA c.bn c.bc, .slice c.tA c.tn c.tc, .int .i64 c.M, .int .i64 c.G, .int .i64 c.F]] w fun e w' => ∃ A1 A2 A3 A4, e = .returned (.agg #[.int .i64 c.N, .slice A1 c.pn c.pn, .slice A2 c.sn c.sn, .int .i64 c.L, .slice A3 c.bn c.bn, .slice A4 c.tn c.tn, .int .i64 c.M, .int .i64 c.G, .int .i64 c.F]) ∧ CfOwn w' w.heap.size (c.to A1 A2 A3 A4) ∧ Below w.heap.size w w' := by
  obtain ⟨f1, f2, f3, f4⟩ := hc.few
  have HC := Lib.hid hc
  clear hc
  go_enter Tryd.func39, Tryd.ntmps39
  go_wp2_with (first
    | (go_at_call 60; (with_reducible refine (own_any c.pA c.pn c.pc c.P _ ((HC.out.al _).al _).p f1).mono ?_)
       rintro e w1 ⟨A1, rfl, o1, b1⟩
       have hB1 : Blk w1 w.heap.size 25 #[.int .i64 c.N, .slice c.pA c.pn c.pc, .slice c.sA c.sn c.sc, .int .i64 c.L, .slice c.bA c.bn c.bc, .slice c.tA c.tn c.tc, .int .i64 c.M, .int .i64 c.G, .int .i64 c.F] := ((Blk.new w _ _).alloc _).on b1
       have hb1 := below_then (below_al (below_al (Below.refl _ w) _) _) b1
       have hfr1 := hB1.frozen
       have hZ1 : Blk w1 (w.heap.size + 1) 25 #[.int .i64 0, .slice none 0 0, .slice none 0 0, .int .i64 0, .slice none 0 0, .slice none 0 0, .int .i64 0, .int .i64 0, .int .i64 0] := by
         have h := Blk.new (w.alloc (.cells #[.int .i64 c.N, .slice c.pA c.pn c.pc, .slice c.sA c.sn c.sc, .int .i64 c.L, .slice c.bA c.bn c.bc, .slice c.tA c.tn c.tc, .int .i64 c.M, .int .i64 c.G, .int .i64 c.F] 25)) 25 #[.int .i64 0, .slice none 0 0, .slice none 0 0, .int .i64 0, .slice none 0 0, .slice none 0 0, .int .i64 0, .int .i64 0, .int .i64 0]
         rw [alloc_size] at h
         exact h.on b1
       have o1 := o1.mono (base' := w.heap.size + 2) (by simp)
       clear b1
       obtain ⟨k0, k1, k2, k3, k4, k5, k6, k7, k8⟩ := hB1.cf)
    | (go_at_call 60; (with_reducible refine (own_any c.sA c.sn c.sc c.S _ (HC.out.on (hb1.setCell (Nat.le_refl _) _)).s f2).mono ?_)
       rintro e w2 ⟨A2, rfl, o2, b2⟩
       have d12 := own_apart o1 o2 (by simp [World.setCell])
       have hB2 : Blk w2 w.heap.size 25 #[.int .i64 c.N, .slice A1 c.pn c.pn, .slice c.sA c.sn c.sc, .int .i64 c.L, .slice c.bA c.bn c.bc, .slice c.tA c.tn c.tc, .int .i64 c.M, .int .i64 c.G, .int .i64 c.F] := (hB1.set_ 1 _).on b2
       have hZ2 := (hZ1.far_ (p := ⟨w.heap.size, 1, none⟩) (by simp) (.slice A1 c.pn c.pn)).on b2
       have hb2 := below_then (hb1.setCell (Nat.le_refl _) _) b2
       have o1 := (o1.far (p := ⟨w.heap.size, 1, none⟩) (by simp) (.slice A1 c.pn c.pn)).on b2
       have o2 := o2.mono (base' := w.heap.size + 2) (by have := hB1.lt; have := hZ1.lt; simpa [World.setCell] using (by omega))
       have hfr2 := hB2.frozen
       clear b2 hB1 hZ1 hb1 hfr1 k0 k1 k2 k3 k4 k5 k6 k7 k8
       obtain ⟨k0, k1, k2, k3, k4, k5, k6, k7, k8⟩ := Blk.cf (c := { c with pA := A1, pc := c.pn }) hB2)
    | (go_at_call 60; (with_reducible refine (own_any c.bA c.bn c.bc c.B _ (HC.out.on (hb2.setCell (Nat.le_refl _) _)).b f3).mono ?_)
       rintro e w3 ⟨A3, rfl, o3, b3⟩
       have d13 := own_apart o1 o3 (by simp [World.setCell])
       have d23 := own_apart o2 o3 (by simp [World.setCell])
       have hB3 : Blk w3 w.heap.size 25 #[.int .i64 c.N, .slice A1 c.pn c.pn, .slice A2 c.sn c.sn, .int .i64 c.L, .slice c.bA c.bn c.bc, .slice c.tA c.tn c.tc, .int .i64 c.M, .int .i64 c.G, .int .i64 c.F] := (hB2.set_ 2 _).on b3
       have hZ3 := (hZ2.far_ (p := ⟨w.heap.size, 2, none⟩) (by simp) (.slice A2 c.sn c.sn)).on b3
       have hb3 := below_then (hb2.setCell (Nat.le_refl _) _) b3
       have o1 := (o1.far (p := ⟨w.heap.size, 2, none⟩) (by simp) (.slice A2 c.sn c.sn)).on b3
       have o2 := (o2.far (p := ⟨w.heap.size, 2, none⟩) (by simp) (.slice A2 c.sn c.sn)).on b3
       have o3 := o3.mono (base' := w.heap.size + 2) (by have := hB2.lt; have := hZ2.lt; simpa [World.setCell] using (by omega))
       have hfr3 := hB3.frozen
       clear b3 hB2 hZ2 hb2 hfr2 k0 k1 k2 k3 k4 k5 k6 k7 k8
       obtain ⟨k0, k1, k2, k3, k4, k5, k6, k7, k8⟩ := Blk.cf (c := { c with pA := A1, pc := c.pn, sA := A2, sc := c.sn }) hB3)
    | (go_at_call 61; (with_reducible refine (ownT_any c.tA c.tn c.tc c.T _ (HC.out.on (hb3.setCell (Nat.le_refl _) _)).t f4).mono ?_)
       rintro e w4 ⟨A4, rfl, o4, b4⟩
       have hB4 : Blk w4 w.heap.size 25 #[.int .i64 c.N, .slice A1 c.pn c.pn, .slice A2 c.sn c.sn, .int .i64 c.L, .slice A3 c.bn c.bn, .slice c.tA c.tn c.tc, .int .i64 c.M, .int .i64 c.G, .int .i64 c.F] := (hB3.set_ 4 _).on b4
       have hZ4 := (hZ3.far_ (p := ⟨w.heap.size, 4, none⟩) (by simp) (.slice A3 c.bn c.bn)).on b4
       have hb4 := below_then (hb3.setCell (Nat.le_refl _) _) b4
       have o1 := (o1.far (p := ⟨w.heap.size, 4, none⟩) (by simp) (.slice A3 c.bn c.bn)).on b4
       have o2 := (o2.far (p := ⟨w.heap.size, 4, none⟩) (by simp) (.slice A3 c.bn c.bn)).on b4
       have o3 := (o3.far (p := ⟨w.heap.size, 4, none⟩) (by simp) (.slice A3 c.bn c.bn)).on b4
       have o4 := o4.mono (base' := w.heap.size + 2) (by have := hB3.lt; have := hZ3.lt; simpa [World.setCell] using (by omega))
       have hfr4 := hB4.frozen
       clear b4 hB3 hZ3 hb3 hfr3 k0 k1 k2 k3 k4 k5 k6 k7 k8
       have hfz := hZ4.frozen
       have z0 := hZ4.cell 0
       have z1 := hZ4.cell 1
       have z2 := hZ4.cell 2
       have z3 := hZ4.cell 3
       have z4 := hZ4.cell 4
       have z5 := hZ4.cell 5
       have z6 := hZ4.cell 6
       have z7 := hZ4.cell 7
       have z8 := hZ4.cell 8
       simp at z0 z1 z2 z3 z4 z5 z6 z7 z8
       obtain ⟨k0, k1, k2, k3, k4, k5, k6, k7, k8⟩ := Blk.cf (c := { c with pA := A1, pc := c.pn, sA := A2, sc := c.sn, bA := A3, bc := c.bn }) hB4))
  refine bodyPost_ret (v := .agg #[.int .i64 c.N, .slice A1 c.pn c.pn, .slice A2 c.sn c.sn, .int .i64 c.L, .slice A3 c.bn c.bn, .slice A4 c.tn c.tn, .int .i64 c.M, .int .i64 c.G, .int .i64 c.F]) (by simp [results, Tryd.results39, go_sem, z0, z1, z2, z3, z4, z5, z6, z7, z8]) rfl ⟨A1, A2, A3, A4, rfl, CfOwn.mono ⟨((((((((((o1.far (by simp) _).far (by simp) _).far (by simp) _).far (by simp) _).far (by simp) _).far (by simp) _).far (by simp) _).far (by simp) _).far (by simp) _).far (by simp) _), ((((((((((o2.far (by simp) _).far (by simp) _).far (by simp) _).far (by simp) _).far (by simp) _).far (by simp) _).far (by simp) _).far (by simp) _).far (by simp) _).far (by simp) _), ((((((((((o3.far (by simp) _).far (by simp) _).far (by simp) _).far (by simp) _).far (by simp) _).far (by simp) _).far (by simp) _).far (by simp) _).far (by simp) _).far (by simp) _), ((((((((((o4.far (by simp) _).far (by simp) _).far (by simp) _).far (by simp) _).far (by simp) _).far (by simp) _).far (by simp) _).far (by simp) _).far (by simp) _).far (by simp) _), ⟨f1, f2, f3, f4⟩, ⟨d12, d13, d23⟩⟩ (by omega), ?_⟩
  exact ((((((((((hb4.setCell (by simp) _).setCell (by simp) _).setCell (by simp) _).setCell (by simp) _).setCell (by simp) _).setCell (by simp) _).setCell (by simp) _).setCell (by simp) _).setCell (by simp) _).setCell (by simp) _)
end Go.Proofs.YtajkpbmjgncbbaaDoor

