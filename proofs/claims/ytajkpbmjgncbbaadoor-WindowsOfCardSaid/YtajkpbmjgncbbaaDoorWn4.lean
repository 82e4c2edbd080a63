/-
  The contract of the law's lives: the chapter's examples: true; the law's Net as windows take it. Conditions: both tables are as the program's text lays them.
-/
import Derived.Test.YtajkpbmjgncbbaaDoorWn3
import Derived.Test.YtajkpbmjgncbbaaDoorLawNet
namespace Go.Proofs.YtajkpbmjgncbbaaDoor
open Go.RowKit Rg
set_option linter.unusedVariables false

theorem netP_of {w : World} {v : Value} {c : Cf} {A1 A2 A3 A4 : Option Addr} (h : NetIs w v (c.to A1 A2 A3 A4)) (h0 : newE c = 0) : NetP w v c.N c.P := ⟨_, h, rfl, rfl, .inr (newE_ok.1 h0).nodes⟩
theorem netWn (c : Cf) (w : World) (hw : Laid2 w) (hc : CfIn w c) (hg : greatB c = false) (h0 : newE c = 0) :
    Calls Tryd.prog 8 #[.agg #[.int .i64 c.N, .slice c.pA c.pn c.pc, .slice c.sA c.sn c.sc, .int .i64 c.L, .slice c.bA c.bn c.bc, .slice c.tA c.tn c.tc, .int .i64 c.M, .int .i64 c.G, .int .i64 c.F]] w fun e w' => ∃ g : Nat, e = .returned (.pointer (some ⟨g, 0, none⟩)) ∧ NetP w' (.pointer (some ⟨g, 0, none⟩)) c.N c.P ∧ Below w.heap.size w w' :=
  (netYes c w hw.ways hc hg h0).mono fun e w' ⟨g, A1, A2, A3, A4, he, hn, hb⟩ => ⟨g, he, netP_of hn h0, hb⟩

/-- The chapter's example. -/
abbrev wnCf (A1 A2 A3 : Option Addr) : Cf := { N := 4, L := 120, M := 3, G := 3, F := 3, pA := A1, pn := 2, pc := 2, sA := A2, sn := 2, sc := 2, bA := A3, bn := 4, bc := 4, tA := none, tn := 0, tc := 0, P := [0, 2], S := [0, 1], B := [0, 0, 0, 0], T := [] }
theorem wnCf_ok (A1 A2 A3 : Option Addr) : newE (wnCf A1 A2 A3) = 0 := rfl
theorem wex1 : ofW 4 [0, 2] 0 0 3 = ⟨3, 3, 4, 118⟩ := rfl
theorem wex1E : ofWE 4 [0, 2] 0 0 3 = 0 := rfl
theorem wex2 : ofW 4 [0, 2] 1 0 3 = ⟨2, 2, 3, 117⟩ := rfl
theorem wex2E : ofWE 4 [0, 2] 1 0 3 = 0 := rfl
theorem wex3 : guM 4 0 (atM [0, 2] 0) = 2 := rfl
theorem wex4 : guM 4 1 (atM [0, 2] 0) = 3 := rfl
theorem wex5 : ovM 4 = 118 := rfl
set_option maxRecDepth 100000 in
set_option maxHeartbeats 4000000 in
theorem lives_wn (w : World) (hw : Laid2 w) :
    Calls Tryd.prog 9 #[] w fun e w' => e = .returned (.bool true) ∧ Below w.heap.size w w' := by
  have hB0 : Below w.heap.size w (((w.alloc (.cells #[.int .i64 0, .int .i64 2] 3)).alloc (.cells #[.int .i64 0, .int .i64 1] 3)).alloc (.cells #[.int .i64 0, .int .i64 0, .int .i64 0, .int .i64 0] 3)) := below_al (below_al (below_al (Below.refl _ _) _) _) _
  have l1 := ((Lies.new w 3 .i64 [0, 2] 2 rfl #[.int .i64 0, .int .i64 2] rfl).al (.cells #[.int .i64 0, .int .i64 1] 3)).al (.cells #[.int .i64 0, .int .i64 0, .int .i64 0, .int .i64 0] 3)
  have l2 := (Lies.new (w.alloc (.cells #[.int .i64 0, .int .i64 2] 3)) 3 .i64 [0, 1] 2 rfl #[.int .i64 0, .int .i64 1] rfl).al (.cells #[.int .i64 0, .int .i64 0, .int .i64 0, .int .i64 0] 3)
  have l3 := Lies.new ((w.alloc (.cells #[.int .i64 0, .int .i64 2] 3)).alloc (.cells #[.int .i64 0, .int .i64 1] 3)) 3 .i64 [0, 0, 0, 0] 4 rfl #[.int .i64 0, .int .i64 0, .int .i64 0, .int .i64 0] rfl
  simp only [alloc_size] at l1 l2 l3
  have HCF := Lib.hid (show CfIn (((w.alloc (.cells #[.int .i64 0, .int .i64 2] 3)).alloc (.cells #[.int .i64 0, .int .i64 1] 3)).alloc (.cells #[.int .i64 0, .int .i64 0, .int .i64 0, .int .i64 0] 3)) (wnCf (some ⟨w.heap.size, 0, none⟩) (some ⟨w.heap.size + 1, 0, none⟩) (some ⟨w.heap.size + 1 + 1, 0, none⟩)) from ⟨by simpa only [alloc_size] using l1, by simpa only [alloc_size] using l2, by simpa only [alloc_size] using l3, LiesT.nil_, by simp⟩)
  have HW := Lib.hid (hw.on hB0)
  have HB0 := Lib.hid hB0
  have HOK := Lib.hid (wnCf_ok (some ⟨w.heap.size, 0, none⟩) (some ⟨w.heap.size + 1, 0, none⟩) (some ⟨w.heap.size + 1 + 1, 0, none⟩))
  have q1 := wn_eql 3 3 4 118 3 3 4 118
  have q2 := wn_eql 2 2 3 117 2 2 3 117
  clear hw hB0 l1 l2 l3
  go_enter Tryd.func9, Tryd.ntmps9
  go_wp2_with (first
    | (go_at_call 24; (with_reducible refine (new_yes (wnCf (some ⟨w.heap.size, 0, none⟩) (some ⟨w.heap.size + 1, 0, none⟩) (some ⟨w.heap.size + 1 + 1, 0, none⟩)) (((w.alloc (.cells #[.int .i64 0, .int .i64 2] 3)).alloc (.cells #[.int .i64 0, .int .i64 1] 3)).alloc (.cells #[.int .i64 0, .int .i64 0, .int .i64 0, .int .i64 0] 3)) HCF.out HW.out.ways HOK.out).mono ?_); rintro e w1 ⟨gN, N1, N2, N3, N4, rfl, -, hN0, -, b1⟩; have hN := netP_of hN0 HOK.out; have hW1 := HW.out.on b1; have hB1 := below_then HB0.out b1; clear b1 hN0 HCF HW HOK)
    | (go_at_call 10; (with_reducible refine (winOf_is _ 4 [0, 2] 0 0 3 ⟨3, 3, 4, 118⟩ wex1 0 wex1E w1 hN hW1 (by decide) (by decide)).mono ?_); rintro e w2 ⟨rfl, b2⟩; have hX2 := Blk.new w2 33 #[.int .u8 3, .int .i64 3, .int .i64 4, .int .i64 118]; have b2' := below_al b2 (.cells #[.int .u8 3, .int .i64 3, .int .i64 4, .int .i64 118] 33); have hN2 := hN.on b2'; have hW2 := hW1.on b2'; have hB2 := below_then hB1 b2'; clear b2 b2' hN hW1 hB1)
    | (go_at_call 10; (with_reducible refine (winOf_is _ 4 [0, 2] 1 0 3 ⟨2, 2, 3, 117⟩ wex2 0 wex2E _ hN2 hW2 (by decide) (by decide)).mono ?_); rintro e w3 ⟨rfl, b3⟩; have hY3 := Blk.new w3 33 #[.int .u8 2, .int .i64 2, .int .i64 3, .int .i64 117]; have b3' := below_al b3 (.cells #[.int .u8 2, .int .i64 2, .int .i64 3, .int .i64 117] 33); have hX3 := hX2.on b3'; have hN3 := hN2.on b3'; have hW3 := hW2.on b3'; have hB3 := below_then hB2 b3'; clear b3 b3' hX2 hN2 hW2 hB2)
    | (go_at_call 15; (with_reducible refine (guards_is _ 4 [0, 2] 0 2 3 wex3 wex4 _ hN3 hW3).mono ?_); rintro e w4 ⟨rfl, b4⟩; have hX4 := hX3.on b4; have hY4 := hY3.on b4; have hN4 := hN3.on b4; have hW4 := hW3.on b4; have hB4 := below_then hB3 b4; have x0 := hX4.cell 0; have x1 := hX4.cell 1; have x2 := hX4.cell 2; have x3 := hX4.cell 3; have xl := hX4.lt; have y0 := hY4.cell 0; have y1 := hY4.cell 1; have y2 := hY4.cell 2; have y3 := hY4.cell 3; have yl := hY4.lt; simp only [List.getElem?_toArray, List.getElem?_cons_zero, List.getElem?_cons_succ] at x0 x1 x2 x3 y0 y1 y2 y3; clear b4 hN3 hW3 hB3 hX3 hY3)
    | (go_at_call 18; (with_reducible refine (winOver_is _ 4 [0, 2] 118 wex5 _ hN4 hW4).mono ?_); rintro e w5 ⟨rfl, b5⟩; have hB5 := below_then hB4 b5))
  go_ret
  exact ⟨rfl, hB5⟩
end Go.Proofs.YtajkpbmjgncbbaaDoor

