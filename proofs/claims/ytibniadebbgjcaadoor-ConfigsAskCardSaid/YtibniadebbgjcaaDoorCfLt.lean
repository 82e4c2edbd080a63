/-
  The contract of the law's LeftConfig: true of a twin that is as it was; nothing that was there has turned. Conditions: the twin's and the config's readings.
-/
import Derived.Test.YtibniadebbgjcaaDoorCfT
namespace Go.Proofs.YtibniadebbgjcaaDoor
open Go.RowKit Rg

set_option maxRecDepth 100000 in
set_option maxHeartbeats 1000000 in
theorem leftConfig_true (c : Cf) (base g1 c1 g2 c2 g3 c3 g4 c4 : Nat) (w : World) (ht : TwinCf w base c g1 c1 g2 c2 g3 c3 g4 c4) (hc : CfIn w c) :
    Calls Tryd.prog 14 #[.agg #[.int .i64 c.N, .slice (some ⟨g1, 0, none⟩) c.pn c1, .slice (some ⟨g2, 0, none⟩) c.sn c2, .int .i64 c.L, .slice (some ⟨g3, 0, none⟩) c.bn c3, .slice (some ⟨g4, 0, none⟩) c.tn c4, .int .i64 c.M, .int .i64 c.G, .int .i64 c.F], .agg #[.int .i64 c.N, .slice c.pA c.pn c.pc, .slice c.sA c.sn c.sc, .int .i64 c.L, .slice c.bA c.bn c.bc, .slice c.tA c.tn c.tc, .int .i64 c.M, .int .i64 c.G, .int .i64 c.F]] w fun e w' => e = .returned (.bool true) ∧ Below w.heap.size w w' := by
  obtain ⟨f1, f2, f3, f4⟩ := hc.few
  have HF := Lib.hid hc.few
  have hB := fun o1 o2 => below_al (below_al (Below.refl _ w) o1) o2
  have HB := Lib.hid hB
  have HD := Lib.hid (fun o1 o2 => ht.on (hB o1 o2))
  have HC := Lib.hid (fun o1 o2 => hc.on (hB o1 o2))
  have hcap := ht.t.2.1
  have hci : (c.tn : Int) + 1 ≤ (c4 : Int) := by omega
  have hdc : decide ((c4 : Int) < (c.tn : Int) + 1) = false := decide_eq_false (by omega)
  have hsl := fun W : World => headSts g4 c.tn c4 ((c.tn : Int) + 1) (by omega) (by omega) W
  rw [show ((c.tn : Int) + 1).toNat = c.tn + 1 by omega] at hsl
  have hix := fun W => idxSts (n := c.tn + 1) c4 (k := c.tn) (b := g4) (off := 0) rfl (by omega) W
  simp only [Nat.zero_add] at hix
  clear hB ht hc
  go_enter Tryd.func14, Tryd.ntmps14
  go_wp2_with (first
    | (go_at_call 29; (with_reducible refine (sameConfig_true (c.tw g1 c1 g2 c2 g3 c3 g4 c4) c _ ⟨rfl, rfl, rfl, rfl, rfl, rfl, rfl, rfl, rfl, rfl, rfl, rfl, rfl⟩ ((HD.out _ _).in_ HF.out) (HC.out _ _)).mono ?_); rintro e w1 ⟨rfl, b1⟩
       have hT := (HD.out _ _).on b1
       have hC := (HC.out _ _).on b1
       have hb := below_then (HB.out _ _) b1
       have k1 := ((Blk.new w 25 #[.int .i64 c.N, .slice (some ⟨g1, 0, none⟩) c.pn c1, .slice (some ⟨g2, 0, none⟩) c.sn c2, .int .i64 c.L, .slice (some ⟨g3, 0, none⟩) c.bn c3, .slice (some ⟨g4, 0, none⟩) c.tn c4, .int .i64 c.M, .int .i64 c.G, .int .i64 c.F]).alloc (.cells #[.int .i64 c.N, .slice c.pA c.pn c.pc, .slice c.sA c.sn c.sc, .int .i64 c.L, .slice c.bA c.bn c.bc, .slice c.tA c.tn c.tc, .int .i64 c.M, .int .i64 c.G, .int .i64 c.F] 25)).on b1
       have k2 := Blk.new (w.alloc (.cells #[.int .i64 c.N, .slice (some ⟨g1, 0, none⟩) c.pn c1, .slice (some ⟨g2, 0, none⟩) c.sn c2, .int .i64 c.L, .slice (some ⟨g3, 0, none⟩) c.bn c3, .slice (some ⟨g4, 0, none⟩) c.tn c4, .int .i64 c.M, .int .i64 c.G, .int .i64 c.F] 25)) 25 #[.int .i64 c.N, .slice c.pA c.pn c.pc, .slice c.sA c.sn c.sc, .int .i64 c.L, .slice c.bA c.bn c.bc, .slice c.tA c.tn c.tc, .int .i64 c.M, .int .i64 c.G, .int .i64 c.F]
       rw [alloc_size] at k2
       replace k2 := k2.on b1
       have p1 := k1.cell 1
       have q1 := k2.cell 1
       simp only [List.getElem?_toArray, List.getElem?_cons_zero, List.getElem?_cons_succ] at p1 q1
       clear HD HC HB b1)
    | (go_at_call 40; (with_reducible refine (leftNums_true g1 c.pn c1 c.pc c.pA c.P w1 hT.p hC.p f1).mono ?_); rintro e w2 ⟨rfl, b2⟩
       replace hT := hT.on b2
       replace hC := hC.on b2
       replace hb := below_then hb b2
       replace k1 := k1.on b2
       replace k2 := k2.on b2
       clear p1 q1 b2
       have p2 := k1.cell 2
       have q2 := k2.cell 2
       simp only [List.getElem?_toArray, List.getElem?_cons_zero, List.getElem?_cons_succ] at p2 q2)
    | (go_at_call 40; (with_reducible refine (leftNums_true g2 c.sn c2 c.sc c.sA c.S w2 hT.s hC.s f2).mono ?_); rintro e w3 ⟨rfl, b3⟩
       replace hT := hT.on b3
       replace hC := hC.on b3
       replace hb := below_then hb b3
       replace k1 := k1.on b3
       replace k2 := k2.on b3
       clear p2 q2 b3
       have p4 := k1.cell 4
       have q4 := k2.cell 4
       simp only [List.getElem?_toArray, List.getElem?_cons_zero, List.getElem?_cons_succ] at p4 q4)
    | (go_at_call 40; (with_reducible refine (leftNums_true g3 c.bn c3 c.bc c.bA c.B w3 hT.b hC.b f3).mono ?_); rintro e w4 ⟨rfl, b4⟩
       replace hT := hT.on b4
       replace hC := hC.on b4
       replace hb := below_then hb b4
       replace k1 := k1.on b4
       replace k2 := k2.on b4
       clear p4 q4 b4
       have p5 := k1.cell 5
       have q5 := k2.cell 5
       simp only [List.getElem?_toArray, List.getElem?_cons_zero, List.getElem?_cons_succ] at p5 q5
       obtain ⟨m0, m1, m2⟩ := hT.t.mark))
  go_ret
  exact ⟨rfl, hb⟩
end Go.Proofs.YtibniadebbgjcaaDoor
