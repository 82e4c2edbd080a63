/-
  The law ConfigsHalves, walked: in whatever config that may be each pair has two halves, neighbours and one another's partners, and a slot within a round: true; nothing that was there has turned. Conditions: the config's reading; the table of directions is as the program's text lays it.
-/
import Derived.Test.YtibniadebbgjcaaDoorCfH
import Derived.Test.YtibniadebbgjcaaDoorCfR
import Derived.Test.YtibniadebbgjcaaDoorReg
import Derived.Test.YtibniadebbgjcaaDoorRg3
namespace Go.Proofs.YtibniadebbgjcaaDoor
open Go.RowKit Rg

theorem dist_is (n d a b p : Int) (hp : distM n d a b = p) (w : World) (hw : Ways w) (hd : 0 ≤ d) (hd' : d ≤ 255) :
    Calls Tryd.prog 31 #[.int .i64 n, .int .u8 d, .int .i64 a, .int .i64 b] w fun e w' => e = .returned (.int .i64 p) ∧ Below w.heap.size w w' := by
  subst hp; exact dist_any n d a b w hw hd hd'

set_option maxRecDepth 100000 in
theorem halves_great (c : Cf) (slot : Int) (w : World) (hw : Ways w) (hg : greatB c = true) :
    Calls Tryd.prog 6 #[.agg #[.int .i64 c.N, .slice c.pA c.pn c.pc, .slice c.sA c.sn c.sc, .int .i64 c.L, .slice c.bA c.bn c.bc, .slice c.tA c.tn c.tc, .int .i64 c.M, .int .i64 c.G, .int .i64 c.F], .int .i64 slot] w fun e w' => e = .returned (.bool true) ∧ Below w.heap.size w w' := by
  have HG := Lib.hid hg
  clear hg
  go_enter Tryd.func6, Tryd.ntmps6
  go_wp2_with (first
    | (go_at_call 9; (with_reducible refine (great_is c true HG.out _).mono ?_); rintro e w1 ⟨rfl, b1⟩)
    | (go_at_call 10; (with_reducible refine (lives_any w1 ((hw.al _).on b1)).mono ?_); rintro e w2 ⟨rfl, b2⟩))
  go_ret
  exact ⟨rfl, below_then (below_then (below_al (Below.refl _ _) _) b1) b2⟩
set_option maxRecDepth 100000 in
theorem halves_no (c : Cf) (slot : Int) (w : World) (hw : Ways w) (hc : CfIn w c) (hg : greatB c = false) (h0 : newE c ≠ 0) :
    Calls Tryd.prog 6 #[.agg #[.int .i64 c.N, .slice c.pA c.pn c.pc, .slice c.sA c.sn c.sc, .int .i64 c.L, .slice c.bA c.bn c.bc, .slice c.tA c.tn c.tc, .int .i64 c.M, .int .i64 c.G, .int .i64 c.F], .int .i64 slot] w fun e w' => e = .returned (.bool true) ∧ Below w.heap.size w w' := by
  have HG := Lib.hid hg
  obtain ⟨r, hr⟩ : ∃ r, r = newE c := ⟨_, rfl⟩
  rw [← hr] at h0
  have HR := Lib.hid hr.symm
  have HR0 := Lib.hid h0
  have e1 := beq_eq_false_iff_ne.2 h0
  clear hg hr h0
  go_enter Tryd.func6, Tryd.ntmps6
  go_wp2_with (first
    | (go_at_call 9; (with_reducible refine (great_is c false HG.out _).mono ?_); rintro e w1 ⟨rfl, b1⟩; obtain ⟨k0, k1, k2, k3, k4, k5, k6, k7, k8⟩ := ((Blk.new w _ _).on b1).cf)
    | (go_at_call 12; (with_reducible refine (new_no_is c r HR.out w1 ((hc.al _).on b1) ((hw.al _).on b1) HR0.out).mono ?_); rintro e w2 ⟨rfl, b2⟩; have B2 := below_then (below_then (below_al (Below.refl _ w) _) b1) b2)
    | (go_at_call 10; (with_reducible refine (lives_any w2 (hw.on B2)).mono ?_); rintro e w3 ⟨rfl, b3⟩))
  go_ret
  exact ⟨rfl, below_then B2 b3⟩

set_option maxRecDepth 100000 in
set_option maxHeartbeats 4000000 in
theorem halves_yes (c : Cf) (slot : Int) (w : World) (hw : Ways w) (hc : CfIn w c) (hg : greatB c = false) (h0 : newE c = 0) :
    Calls Tryd.prog 6 #[.agg #[.int .i64 c.N, .slice c.pA c.pn c.pc, .slice c.sA c.sn c.sc, .int .i64 c.L, .slice c.bA c.bn c.bc, .slice c.tA c.tn c.tc, .int .i64 c.M, .int .i64 c.G, .int .i64 c.F], .int .i64 slot] w fun e w' => e = .returned (.bool true) ∧ Below w.heap.size w w' := by
  have HG := Lib.hid hg
  have HOK := Lib.hid (newE_ok.1 h0)
  have HN0 := Lib.hid h0
  have HL := Lib.hid hc.p.len
  have HLS := Lib.hid hc.s.len
  obtain ⟨hn1, hn2⟩ := HOK.out.nodes
  have hN4 : 4 ≤ c.N ∧ c.N ≤ 16 := ⟨hn1, hn2⟩
  obtain ⟨hp1, hp2⟩ := HOK.out.pairs
  obtain ⟨hs1, hs2⟩ := HOK.out.slots
  have hL0 : 0 ≤ c.L := by have := HOK.out.long; omega
  have hL1 : c.L ≤ 4096 := HOK.out.long.2
  have hmk := fun u => makeNums (c.pn : Int) (by omega) (by omega) u
  simp only [Int.toNat_natCast] at hmk
  clear hg h0
  go_enter Tryd.func6, Tryd.ntmps6
  go_wp2_with (first
    | (go_at_call 9; (with_reducible refine (great_is c false HG.out _).mono ?_); rintro e w1 ⟨rfl, b1⟩; have hB1 : Blk w1 w.heap.size 25 #[.int .i64 c.N, .slice c.pA c.pn c.pc, .slice c.sA c.sn c.sc, .int .i64 c.L, .slice c.bA c.bn c.bc, .slice c.tA c.tn c.tc, .int .i64 c.M, .int .i64 c.G, .int .i64 c.F] := (Blk.new w _ _).on b1; obtain ⟨k0, k1, k2, k3, k4, k5, k6, k7, k8⟩ := hB1.cf)
    | (go_at_call 12; (with_reducible refine (new_yes c w1 ((hc.al _).on b1) ((hw.al _).on b1) HN0.out).mono ?_); rintro e w2 ⟨gN, A1, A2, A3, A4, rfl, -, hN2, -, b2⟩
       have B2 := below_then (below_then (below_al (Below.refl _ w) _) b1) b2
       have hB2 := hB1.on b2
       have hW2 := hw.on B2
       clear k0 k1 k2 k3 k4 k5 k6 k7 k8 b1 b2 hB1 hc hw
       obtain ⟨k0, k1, k2, k3, k4, k5, k6, k7, k8⟩ := hB2.cf))
  clear k0 k1 k2 k3 k4 k5 k6 k7 k8 hmk
  go_loopw [8] (fun s wr => ∃ i : Nat, (i : Int) ≤ c.N ∧ s = .int .i64 i ∧ Blk wr w2.heap.size 3 (cellsOf .i64 (halvesL c.N c.P i)) ∧ Below w2.heap.size w2 wr) (fun s _ => (c.N - intOf s).toNat)
  case atStart =>
    refine ⟨0, by omega, rfl, ?_, below_al (Below.refl _ _) _⟩
    have h := Blk.new w2 3 (madeCells #[.int .i64 0] c.pn)
    have e : madeCells #[.int .i64 0] c.pn = cellsOf .i64 (halvesL c.N c.P ((0 : Nat) : Int)) := by
      rw [show ((0 : Nat) : Int) = 0 from rfl, halves_zero hn1 HOK.out.okP, HL.out]
      apply Array.toList_inj.1
      rw [toList_madeCells_one]
      simp [cellsOf]
    rw [← e]
    exact h
  case round =>
    obtain ⟨i, hi, rfl, hH, hb⟩ := hrel
    have hixh := fun W (q : Nat) (hq : q < c.pn) => idxNums (n := c.pn) c.pn (b := w2.heap.size) (off := 0) (k := q) rfl hq W
    by_cases hlt : (i : Int) < c.N
    · have HI1 := Lib.hid (show ((i + 1 : Nat) : Int) = (i : Int) + 1 by omega)
      rcases pair_cases c.N c.P i with ⟨hp, hnone⟩ | ⟨q, hq, hp, hhit⟩
      · have HPI := Lib.hid hp
        have HPK := Lib.hid (part_none (show (0 : Int) ≤ i by omega) hp)
        have HH := Lib.hid (halves_none hN4 HOK.out.okP hnone)
        clear hp hnone hixh
        obtain ⟨k0, k1, k2, k3, k4, k5, k6, k7, k8⟩ := (hB2.on hb).cf
        go_wp2_with (first
          | (go_at_call 21; (with_reducible refine (pair_is _ (c.to A1 A2 A3 A4) i (-1) HPI.out wr (hN2.on hb) (hW2.on hb)).mono ?_); rintro e u1 ⟨rfl, a1⟩; have d1 := below_then hb a1)
          | (go_at_call 23; (with_reducible refine (partner_is _ (c.to A1 A2 A3 A4) i (-1) HPK.out u1 (hN2.on d1) (hW2.on d1)).mono ?_); rintro e u2 ⟨rfl, a2⟩; have d2 := below_then d1 a2))
        go_roundw
        case rel => exact ⟨i + 1, by omega, by go_num, by rw [HI1.out, HH.out]; exact (hH.on a1).on a2, d2⟩
        case measure => simp [intOf]; omega
      · rw [HL.out] at hq
        obtain ⟨k, hk1, hk2, hk3, hk4⟩ := part_some hN4 HOK.out.okP (x := (i : Int)) (by rw [HL.out]; exact hq) hhit
        have HPI := Lib.hid hp
        have HPK := Lib.hid hk1
        have HKQ := Lib.hid hk2
        have HKP := Lib.hid hk3
        have HHIT := Lib.hid (halves_hit hN4 HOK.out.okP (i := (i : Int)) (by rw [HL.out]; exact hq) hhit)
        have HF := Lib.hid (atM_nat c.P q (by rw [HL.out]; exact hq))
        have HFB := Lib.hid (okP_at HOK.out.okP q (by rw [HL.out]; exact hq))
        have hxb := halves_bd c.N c.P i q (by rw [HL.out]; exact hq)
        obtain ⟨f, hf⟩ : ∃ f, f = c.P.getD q 0 := ⟨_, rfl⟩
        obtain ⟨x, hx⟩ : ∃ x, x = (halvesL c.N c.P i).getD q 0 := ⟨_, rfl⟩
        rw [← hf] at hk4 HF HFB
        rw [← hx] at hxb
        have HX := Lib.hid hx
        have hix := fun W => hixh W q hq
        simp only [Nat.zero_add] at hix
        obtain ⟨hx0, hx2⟩ := hxb
        have hqi : (q : Int) < (c.pn : Int) := by omega
        have hq0 : decide ((q : Int) < 0) = false := decide_eq_false (by omega)
        have hq1 : decide ((c.pn : Int) ≤ (q : Int)) = false := decide_eq_false (by omega)
        have hq2 : decide (c.pn ≤ q) = false := decide_eq_false (by omega)
        obtain ⟨k0, k1, k2, k3, k4, k5, k6, k7, k8⟩ := (hB2.on hb).cf
        clear hp hk1 hk2 hk3 hhit hf hx hixh
        rcases hk4 with ⟨hif, -⟩ | ⟨hif, -⟩
        · have HDI := Lib.hid (show distM c.N 0 f i = 0 by subst hif; exact (half_dist hN4 HFB.out).1)
          have HE1 := beq_iff_eq.2 hif
          have e3 : ((i : Int) == f) = true := HE1
          have e4 : ((i : Int) != f) = false := by simp only [bne, e3]; rfl
          clear hif HE1
          go_wp2_with (first
            | (go_at_call 21; (with_reducible refine (pair_is _ (c.to A1 A2 A3 A4) i q HPI.out wr (hN2.on hb) (hW2.on hb)).mono ?_); rintro e u1 ⟨rfl, a1⟩; have d1 := below_then hb a1)
            | (go_at_call 23; (with_reducible refine (partner_is _ (c.to A1 A2 A3 A4) i k HPK.out u1 (hN2.on d1) (hW2.on d1)).mono ?_); rintro e u2 ⟨rfl, a2⟩; have d2 := below_then d1 a2; obtain ⟨k0, k1, k2, k3, k4, k5, k6, k7, k8⟩ := (hB2.on d2).cf)
            | (go_at_call 23; (with_reducible refine (partner_is _ (c.to A1 A2 A3 A4) k i HKP.out u2 (hN2.on d2) (hW2.on d2)).mono ?_); rintro e u3 ⟨rfl, a3⟩; have d3 := below_then d2 a3; clear k0 k1 k2 k3 k4 k5 k6 k7 k8)
            | (go_at_call 21; (with_reducible refine (pair_is _ (c.to A1 A2 A3 A4) k q HKQ.out u3 (hN2.on d3) (hW2.on d3)).mono ?_); rintro e u4 ⟨rfl, a4⟩; have d4 := below_then d3 a4; have hH4 := (((hH.on a1).on a2).on a3).on a4; have hcH := (hH4.cell q).trans (cellsOf_at _ _ q (by rw [halves_len, HL.out]; exact hq)); rw [← HX.out] at hcH; have hfz := hH4.frozen))
          have hH5 := hH4.set_ q (.int .i64 (x + 1))
          rw [cellsOf_set, HX.out, HHIT.out] at hH5
          rw [← HX.out] at hH5
          have hU := d4.setCell (p := ⟨w2.heap.size, q, none⟩) (Nat.le_refl _) (.int .i64 (x + 1))
          clear hH hH4 hcH hfz a1 a2 a3 a4 d1 d2 d3 d4 hb
          refine Reg.wp_slots (fun t => t == 11 || (decide (79 ≤ t) && decide (t ≤ 85))) (by kernel_rfl) (by kernel_rfl) (by kernel_rfl) (fun zz => (Reg.tbl [
            (79, .is (.pointer (some ⟨w.heap.size, 0, none⟩))),
            (80, .is (.int .i64 c.N)),
            (81, .is (.pointer (some ⟨gN, 0, none⟩))),
            (82, .is (.int .i64 q)),
            (83, .is (.int .i64 f)),
            (84, .is (.int .i64 i)),
            (85, .is (.int .i64 0)),
            (11, .is (.int .i64 0))] zz).P) (fun zz => (Reg.tbl _ zz).on) ?_ ?_
          · simp only [Reg.frame, Reg.over, Nat.reduceAdd, Nat.reduceBEq, Nat.reduceLeDiff, decide_true, decide_false, Bool.or_true, Bool.or_false, Bool.and_true, Bool.and_false, if_true, Bool.false_eq_true, if_false]
            refine ⟨?_, ?_, ?_, ?_, ?_, ?_, ?_, ?_, trivial⟩
            · intro x u hbu hd
              refine wpOp_step rfl fun K hK => ?_
              go_simp
              exact hK _ _ ⟨_, rfl, Below.refl _ _, fun d hd => by cases hd; exact rfl⟩
            · intro x u hbu hd
              have h79 : x 79 = .pointer (some ⟨w.heap.size, 0, none⟩) := hd 0 (by decide)
              have hcN := (hB2.on (below_then hU hbu)).cf.1
              refine wpOp_step rfl fun K hK => ?_
              simp only [h79] at hK ⊢
              go_simp
              exact hK _ _ ⟨_, rfl, Below.refl _ _, fun d hd => by cases hd; exact rfl⟩
            · intro x u hbu hd
              refine wpOp_step rfl fun K hK => ?_
              go_simp
              exact hK _ _ ⟨_, rfl, Below.refl _ _, fun d hd => by cases hd; exact rfl⟩
            · intro x u hbu hd
              refine wpOp_step rfl fun K hK => ?_
              go_simp
              exact hK _ _ ⟨_, rfl, Below.refl _ _, fun d hd => by cases hd; exact rfl⟩
            · intro x u hbu hd
              have h81 : x 81 = .pointer (some ⟨gN, 0, none⟩) := hd 2 (by decide)
              have h82 : x 82 = .int .i64 q := hd 3 (by decide)
              refine wpOp_step rfl fun K hK => ?_
              simp only [h81, h82] at hK ⊢
              go_simp
              with_reducible refine (first_is _ (c.to A1 A2 A3 A4) q f HF.out u (hN2.on (below_then hU hbu))).mono ?_
              rintro e u' ⟨rfl, hb'⟩
              exact hK _ _ ⟨_, rfl, hb', fun d hd => by cases hd; exact rfl⟩
            · intro x u hbu hd
              refine wpOp_step rfl fun K hK => ?_
              go_simp
              exact hK _ _ ⟨_, rfl, Below.refl _ _, fun d hd => by cases hd; exact rfl⟩
            · intro x u hbu hd
              have h80 : x 80 = .int .i64 c.N := hd 1 (by decide)
              have h83 : x 83 = .int .i64 f := hd 4 (by decide)
              have h84 : x 84 = .int .i64 i := hd 5 (by decide)
              refine wpOp_step rfl fun K hK => ?_
              simp only [h80, h83, h84] at hK ⊢
              go_simp
              with_reducible refine (dist_is c.N 0 f i 0 HDI.out u (hW2.on (below_then hU hbu)) (by omega) (by omega)).mono ?_
              rintro e u' ⟨rfl, hb'⟩
              exact hK _ _ ⟨_, rfl, hb', fun d hd => by cases hd; exact rfl⟩
            · intro x u hbu hd
              have h85 : x 85 = .int .i64 0 := hd 6 (by decide)
              refine wpOp_step rfl fun K hK => ?_
              simp only [h85] at hK ⊢
              go_simp
              exact hK _ _ ⟨_, rfl, Below.refl _ _, fun d hd => by cases hd; exact rfl⟩
          · intro x U2 hU2 hd
            have h11 : x 11 = .int .i64 0 := hd 7 (by decide)
            simp only [Reg.frame, Reg.over, Nat.reduceAdd, Nat.reduceBEq, Nat.reduceLeDiff, decide_true, decide_false, Bool.or_true, Bool.or_false, Bool.and_true, Bool.and_false, if_true, Bool.false_eq_true, if_false, h11]
            have d6 := below_then hU hU2
            have hH6 := hH5.on hU2
            go_wp2_with (first
              | (go_at_call 19; (with_reducible refine (first_is _ (c.to A1 A2 A3 A4) q f HF.out U2 (hN2.on d6)).mono ?_); rintro e u7 ⟨rfl, a7⟩; have d7 := below_then d6 a7; have hH7 := hH6.on a7)
              | (go_at_call 19; (with_reducible refine (first_is _ (c.to A1 A2 A3 A4) q f HF.out u7 (hN2.on d7)).mono ?_); rintro e u8 ⟨rfl, a8⟩; have d8 := below_then d7 a8; have hH8 := hH7.on a8))
            go_roundw
            case rel => exact ⟨i + 1, by omega, by go_num, by have := hH8; rw [← HI1.out] at this; exact this, d8⟩
            case measure => simp [intOf]; omega
        · have HDI := Lib.hid (show distM c.N 0 f i = 1 by rw [hif]; exact (half_dist hN4 HFB.out).2)
          have HE1 := beq_eq_false_iff_ne.2 (show ¬ (i : Int) = f by have := mod1 hN4.1 HFB.out; omega)
          have e3 : ((i : Int) == f) = false := HE1
          have e4 : ((i : Int) != f) = true := by simp only [bne, e3]; rfl
          clear hif HE1
          go_wp2_with (first
            | (go_at_call 21; (with_reducible refine (pair_is _ (c.to A1 A2 A3 A4) i q HPI.out wr (hN2.on hb) (hW2.on hb)).mono ?_); rintro e u1 ⟨rfl, a1⟩; have d1 := below_then hb a1)
            | (go_at_call 23; (with_reducible refine (partner_is _ (c.to A1 A2 A3 A4) i k HPK.out u1 (hN2.on d1) (hW2.on d1)).mono ?_); rintro e u2 ⟨rfl, a2⟩; have d2 := below_then d1 a2; obtain ⟨k0, k1, k2, k3, k4, k5, k6, k7, k8⟩ := (hB2.on d2).cf)
            | (go_at_call 23; (with_reducible refine (partner_is _ (c.to A1 A2 A3 A4) k i HKP.out u2 (hN2.on d2) (hW2.on d2)).mono ?_); rintro e u3 ⟨rfl, a3⟩; have d3 := below_then d2 a3; clear k0 k1 k2 k3 k4 k5 k6 k7 k8)
            | (go_at_call 21; (with_reducible refine (pair_is _ (c.to A1 A2 A3 A4) k q HKQ.out u3 (hN2.on d3) (hW2.on d3)).mono ?_); rintro e u4 ⟨rfl, a4⟩; have d4 := below_then d3 a4; have hH4 := (((hH.on a1).on a2).on a3).on a4; have hcH := (hH4.cell q).trans (cellsOf_at _ _ q (by rw [halves_len, HL.out]; exact hq)); rw [← HX.out] at hcH; have hfz := hH4.frozen))
          have hH5 := hH4.set_ q (.int .i64 (x + 1))
          rw [cellsOf_set, HX.out, HHIT.out] at hH5
          rw [← HX.out] at hH5
          have hU := d4.setCell (p := ⟨w2.heap.size, q, none⟩) (Nat.le_refl _) (.int .i64 (x + 1))
          clear hH hH4 hcH hfz a1 a2 a3 a4 d1 d2 d3 d4 hb
          refine Reg.wp_slots (fun t => t == 11 || (decide (79 ≤ t) && decide (t ≤ 85))) (by kernel_rfl) (by kernel_rfl) (by kernel_rfl) (fun zz => (Reg.tbl [
            (79, .is (.pointer (some ⟨w.heap.size, 0, none⟩))),
            (80, .is (.int .i64 c.N)),
            (81, .is (.pointer (some ⟨gN, 0, none⟩))),
            (82, .is (.int .i64 q)),
            (83, .is (.int .i64 f)),
            (84, .is (.int .i64 i)),
            (85, .is (.int .i64 1)),
            (11, .is (.int .i64 1))] zz).P) (fun zz => (Reg.tbl _ zz).on) ?_ ?_
          · simp only [Reg.frame, Reg.over, Nat.reduceAdd, Nat.reduceBEq, Nat.reduceLeDiff, decide_true, decide_false, Bool.or_true, Bool.or_false, Bool.and_true, Bool.and_false, if_true, Bool.false_eq_true, if_false]
            refine ⟨?_, ?_, ?_, ?_, ?_, ?_, ?_, ?_, trivial⟩
            · intro x u hbu hd
              refine wpOp_step rfl fun K hK => ?_
              go_simp
              exact hK _ _ ⟨_, rfl, Below.refl _ _, fun d hd => by cases hd; exact rfl⟩
            · intro x u hbu hd
              have h79 : x 79 = .pointer (some ⟨w.heap.size, 0, none⟩) := hd 0 (by decide)
              have hcN := (hB2.on (below_then hU hbu)).cf.1
              refine wpOp_step rfl fun K hK => ?_
              simp only [h79] at hK ⊢
              go_simp
              exact hK _ _ ⟨_, rfl, Below.refl _ _, fun d hd => by cases hd; exact rfl⟩
            · intro x u hbu hd
              refine wpOp_step rfl fun K hK => ?_
              go_simp
              exact hK _ _ ⟨_, rfl, Below.refl _ _, fun d hd => by cases hd; exact rfl⟩
            · intro x u hbu hd
              refine wpOp_step rfl fun K hK => ?_
              go_simp
              exact hK _ _ ⟨_, rfl, Below.refl _ _, fun d hd => by cases hd; exact rfl⟩
            · intro x u hbu hd
              have h81 : x 81 = .pointer (some ⟨gN, 0, none⟩) := hd 2 (by decide)
              have h82 : x 82 = .int .i64 q := hd 3 (by decide)
              refine wpOp_step rfl fun K hK => ?_
              simp only [h81, h82] at hK ⊢
              go_simp
              with_reducible refine (first_is _ (c.to A1 A2 A3 A4) q f HF.out u (hN2.on (below_then hU hbu))).mono ?_
              rintro e u' ⟨rfl, hb'⟩
              exact hK _ _ ⟨_, rfl, hb', fun d hd => by cases hd; exact rfl⟩
            · intro x u hbu hd
              refine wpOp_step rfl fun K hK => ?_
              go_simp
              exact hK _ _ ⟨_, rfl, Below.refl _ _, fun d hd => by cases hd; exact rfl⟩
            · intro x u hbu hd
              have h80 : x 80 = .int .i64 c.N := hd 1 (by decide)
              have h83 : x 83 = .int .i64 f := hd 4 (by decide)
              have h84 : x 84 = .int .i64 i := hd 5 (by decide)
              refine wpOp_step rfl fun K hK => ?_
              simp only [h80, h83, h84] at hK ⊢
              go_simp
              with_reducible refine (dist_is c.N 0 f i 1 HDI.out u (hW2.on (below_then hU hbu)) (by omega) (by omega)).mono ?_
              rintro e u' ⟨rfl, hb'⟩
              exact hK _ _ ⟨_, rfl, hb', fun d hd => by cases hd; exact rfl⟩
            · intro x u hbu hd
              have h85 : x 85 = .int .i64 1 := hd 6 (by decide)
              refine wpOp_step rfl fun K hK => ?_
              simp only [h85] at hK ⊢
              go_simp
              exact hK _ _ ⟨_, rfl, Below.refl _ _, fun d hd => by cases hd; exact rfl⟩
          · intro x U2 hU2 hd
            have h11 : x 11 = .int .i64 1 := hd 7 (by decide)
            simp only [Reg.frame, Reg.over, Nat.reduceAdd, Nat.reduceBEq, Nat.reduceLeDiff, decide_true, decide_false, Bool.or_true, Bool.or_false, Bool.and_true, Bool.and_false, if_true, Bool.false_eq_true, if_false, h11]
            have d6 := below_then hU hU2
            have hH6 := hH5.on hU2
            go_wp2_with (first
              | (go_at_call 19; (with_reducible refine (first_is _ (c.to A1 A2 A3 A4) q f HF.out U2 (hN2.on d6)).mono ?_); rintro e u7 ⟨rfl, a7⟩; have d7 := below_then d6 a7; have hH7 := hH6.on a7)
              | (go_at_call 19; (with_reducible refine (first_is _ (c.to A1 A2 A3 A4) q f HF.out u7 (hN2.on d7)).mono ?_); rintro e u8 ⟨rfl, a8⟩; have d8 := below_then d7 a8; have hH8 := hH7.on a8))
            go_roundw
            case rel => exact ⟨i + 1, by omega, by go_num, by have := hH8; rw [← HI1.out] at this; exact this, d8⟩
            case measure => simp [intOf]; omega
    · have hiN : (i : Int) = c.N := by omega
      have hH2 : Blk wr w2.heap.size 3 (cellsOf .i64 (halvesL c.N c.P c.N)) := by have h := hH; rw [hiN] at h; exact h
      have hle : c.N ≤ (i : Int) := by omega
      clear hiN hH hi hlt hixh
      obtain ⟨a, ha⟩ : ∃ a, a = bits .and .i64 slot 1099511627775 := ⟨_, rfl⟩
      have hab := and40 slot
      rw [← ha] at hab
      have ha' := ha.symm
      obtain ⟨ha0, ha1⟩ := hab
      clear ha
      obtain ⟨k0, k1, k2, k3, k4, k5, k6, k7, k8⟩ := (hB2.on hb).cf
      go_wp2_with fail
      clear k0 k1 k2 k3 k4 k5 k6 k7 k8
      have hb0 := hb
      clear hb
      go_loopw [13] (fun s wx => ∃ p : Nat, p ≤ c.pn ∧ s = .int .i64 p ∧ Blk wx w2.heap.size 3 (cellsOf .i64 (halvesL c.N c.P c.N)) ∧ Below w2.heap.size w2 wx) (fun s _ => c.pn - (intOf s).toNat)
      case atStart => exact ⟨0, by omega, rfl, hH2, hb0⟩
      case round =>
        clear hH2 hb0
        obtain ⟨p, hp, rfl, hH, hb2⟩ := hrel
        obtain ⟨k0, k1, k2, k3, k4, k5, k6, k7, k8⟩ := (hB2.on hb2).cf
        by_cases hltp : p < c.pn
        · obtain ⟨j, hj, hnx, hown⟩ := next_some HOK.out.okS hltp (a := a) ha0 (by omega)
          rw [HLS.out] at hj
          obtain ⟨nx, hnxe⟩ : ∃ nx : Int, nx = a + j := ⟨_, rfl⟩
          rw [← hnxe] at hnx hown
          have hn0 : a ≤ nx := by omega
          have hn3 : nx < a + (c.sn : Int) := by omega
          have hnb : nx ≤ 1099511693311 := by omega
          have HNX := Lib.hid hnx
          have hmb := mod_bd nx (c.sn : Int) (by omega)
          have hown2 := own_at (S := c.S) (by rw [HLS.out]; omega) nx
          rw [hown, HLS.out] at hown2
          obtain ⟨y, hy⟩ : ∃ y, y = nx % (c.sn : Int) := ⟨_, rfl⟩
          rw [← hy] at hown2 hmb
          have HOW := Lib.hid hown2
          have hy1 : nx.tmod (c.sn : Int) = y := by rw [Int.tmod_eq_emod_of_nonneg (by omega)]; exact hy.symm
          have hy2 : nx % (c.sn : Int) = y := hy.symm
          obtain ⟨hy3, hy4⟩ := hmb
          have hcH := (hH.cell p).trans (cellsOf_at _ _ p (by rw [halves_len, HL.out]; exact hltp))
          rw [halves_all hn1 HOK.out.okP p (by rw [HL.out]; exact hltp)] at hcH
          have hix := fun W => idxNums (n := c.pn) c.pn (b := w2.heap.size) (off := 0) rfl hltp W
          simp only [Nat.zero_add] at hix
          have hsn : 0 < c.sn := by omega
          clear hy hnx hown hown2 hnxe hj j
          go_wp2_with (first
            | (go_at_call 25; (with_reducible refine (next_is _ (c.to A1 A2 A3 A4) a p nx HNX.out _ (hN2.on hb2)).mono ?_); rintro e v1 ⟨rfl, a1⟩
               have d1 := below_then hb2 a1
               have hH1 := hH.on a1
               replace hcH := (hH1.cell p).trans (cellsOf_at _ _ p (by rw [halves_len, HL.out]; exact hltp))
               rw [halves_all hn1 HOK.out.okP p (by rw [HL.out]; exact hltp)] at hcH
               clear k0 k1 k2 k3 k4 k5 k6 k7 k8
               obtain ⟨k0, k1, k2, k3, k4, k5, k6, k7, k8⟩ := (hB2.on d1).cf)
            | (go_at_call 17; (with_reducible refine (owner_is _ (c.to A1 A2 A3 A4) y p HOW.out v1 (hN2.on d1)).mono ?_); rintro e v2 ⟨rfl, a2⟩; have d2 := below_then d1 a2))
          go_roundw
          case rel => exact ⟨p + 1, by omega, by go_num, hH1.on a2, d2⟩
          case measure => simp [intOf]; omega
        · have hRb : 0 ≤ (c.sn : Int) * c.L ∧ (c.sn : Int) * c.L ≤ 65536 := by
            refine ⟨Int.mul_nonneg (by omega) hL0, ?_⟩
            have h : (c.sn : Int) * c.L ≤ 16 * c.L := Int.mul_le_mul_of_nonneg_right (by omega) hL0
            omega
          obtain ⟨R, hR⟩ : ∃ R, R = (c.sn : Int) * c.L := ⟨_, rfl⟩
          rw [← hR] at hRb
          have HR := Lib.hid hR.symm
          have hmul : c.L * (c.sn : Int) = R := by rw [Int.mul_comm]; exact hR.symm
          have hwrap : IntKind.i64.wrap R = R := IntWalk.i64_in _ (by omega)
          clear hR hRb
          go_wp2_with fail
          clear k0 k1 k2 k3 k4 k5 k6 k7 k8
          refine Reg.wp_slots (fun t => t == 4 || decide (149 ≤ t)) (by kernel_rfl) (by kernel_rfl) (by kernel_rfl) (fun zz => (Reg.tbl [
            (149, .is (.pointer (some ⟨gN, 0, none⟩))),
            (150, .is (.int .i64 R)),
            (151, .is (.pointer (some ⟨w.heap.size, 3, none⟩))),
            (152, .is (.int .i64 c.L)),
            (153, .is (.pointer (some ⟨w.heap.size, 2, none⟩))),
            (154, .is (.slice c.sA c.sn c.sc)),
            (155, .is (.int .i64 c.sn)),
            (156, .is (.int .i64 R)),
            (157, .is (.bool true)),
            (158, .is (.bool true)),
            (159, .is (.bool true)),
            (160, .is (.bool true)),
            (4, .is (.bool true))] zz).P) (fun zz => (Reg.tbl _ zz).on) ?_ ?_
          · simp only [Reg.frame, Reg.over, Nat.reduceAdd, Nat.reduceBEq, Nat.reduceLeDiff, decide_true, decide_false, Bool.or_true, Bool.or_false, if_true, Bool.false_eq_true, if_false]
            refine ⟨?_, ?_, ?_, ?_, ?_, ?_, ?_, ?_, ?_, ?_, ?_, ?_, ?_, trivial⟩
            · intro x u hbu hd
              refine wpOp_step rfl fun K hK => ?_
              go_simp
              exact hK _ _ ⟨_, rfl, Below.refl _ _, fun d hd => by cases hd; exact rfl⟩
            · intro x u hbu hd
              have h149 : x 149 = .pointer (some ⟨gN, 0, none⟩) := hd 0 (by decide)
              refine wpOp_step rfl fun K hK => ?_
              simp only [h149] at hK ⊢
              go_simp
              with_reducible refine (round_is _ (c.to A1 A2 A3 A4) R HR.out u (hN2.on (below_then hb2 hbu)) hL0 hL1).mono ?_
              rintro e u' ⟨rfl, hb'⟩
              exact hK _ _ ⟨_, rfl, hb', fun d hd => by cases hd; exact rfl⟩
            · intro x u hbu hd
              refine wpOp_step rfl fun K hK => ?_
              go_simp
              exact hK _ _ ⟨_, rfl, Below.refl _ _, fun d hd => by cases hd; exact rfl⟩
            · intro x u hbu hd
              have h151 : x 151 = .pointer (some ⟨w.heap.size, 3, none⟩) := hd 2 (by decide)
              have hcL := (hB2.on (below_then hb2 hbu)).cf.2.2.2.1
              refine wpOp_step rfl fun K hK => ?_
              simp only [h151] at hK ⊢
              go_simp
              exact hK _ _ ⟨_, rfl, Below.refl _ _, fun d hd => by cases hd; exact rfl⟩
            · intro x u hbu hd
              refine wpOp_step rfl fun K hK => ?_
              go_simp
              exact hK _ _ ⟨_, rfl, Below.refl _ _, fun d hd => by cases hd; exact rfl⟩
            · intro x u hbu hd
              have h153 : x 153 = .pointer (some ⟨w.heap.size, 2, none⟩) := hd 4 (by decide)
              have hcS := (hB2.on (below_then hb2 hbu)).cf.2.2.1
              refine wpOp_step rfl fun K hK => ?_
              simp only [h153] at hK ⊢
              go_simp
              exact hK _ _ ⟨_, rfl, Below.refl _ _, fun d hd => by cases hd; exact rfl⟩
            · intro x u hbu hd
              have h154 : x 154 = .slice c.sA c.sn c.sc := hd 5 (by decide)
              refine wpOp_step rfl fun K hK => ?_
              simp only [h154] at hK ⊢
              go_simp
              exact hK _ _ ⟨_, rfl, Below.refl _ _, fun d hd => by cases hd; exact rfl⟩
            · intro x u hbu hd
              have h152 : x 152 = .int .i64 c.L := hd 3 (by decide)
              have h155 : x 155 = .int .i64 c.sn := hd 6 (by decide)
              refine wpOp_step rfl fun K hK => ?_
              simp only [h152, h155] at hK ⊢
              go_simp
              exact hK _ _ ⟨_, rfl, Below.refl _ _, fun d hd => by cases hd; exact rfl⟩
            · intro x u hbu hd
              have h150 : x 150 = .int .i64 R := hd 1 (by decide)
              have h156 : x 156 = .int .i64 R := hd 7 (by decide)
              refine wpOp_step rfl fun K hK => ?_
              simp only [h150, h156] at hK ⊢
              go_simp
              exact hK _ _ ⟨_, rfl, Below.refl _ _, fun d hd => by cases hd; exact rfl⟩
            · intro x u hbu hd
              have h157 : x 157 = .bool true := hd 8 (by decide)
              refine wpOp_step rfl fun K hK => ?_
              simp only [h157] at hK ⊢
              go_simp
              exact hK _ _ ⟨_, rfl, Below.refl _ _, fun d hd => by cases hd; exact rfl⟩
            · intro x u hbu hd
              have h158 : x 158 = .bool true := hd 9 (by decide)
              refine wpOp_step rfl fun K hK => ?_
              simp only [h158] at hK ⊢
              go_simp
              with_reducible refine (lives_any u (hW2.on (below_then hb2 hbu))).mono ?_
              rintro e u' ⟨rfl, hb'⟩
              exact hK _ _ ⟨_, rfl, hb', fun d hd => by cases hd; exact rfl⟩
            · intro x u hbu hd
              have h158 : x 158 = .bool true := hd 9 (by decide)
              have h159 : x 159 = .bool true := hd 10 (by decide)
              refine wpOp_step rfl fun K hK => ?_
              simp only [h158, h159] at hK ⊢
              go_simp
              exact hK _ _ ⟨_, rfl, Below.refl _ _, fun d hd => by cases hd; exact rfl⟩
            · intro x u hbu hd
              have h160 : x 160 = .bool true := hd 11 (by decide)
              refine wpOp_step rfl fun K hK => ?_
              simp only [h160] at hK ⊢
              go_simp
              exact hK _ _ ⟨_, rfl, Below.refl _ _, fun d hd => by cases hd; exact rfl⟩
          · intro x U2 hU2 hd
            have h4 : x 4 = .bool true := hd 12 (by decide)
            simp only [Reg.frame, Reg.over, Nat.reduceAdd, Nat.reduceBEq, Nat.reduceLeDiff, decide_true, decide_false, Bool.or_true, Bool.or_false, if_true, Bool.false_eq_true, if_false, h4]
            go_wp2_with fail
            go_ret
            exact ⟨rfl, below_then (below_then B2 hb2) hU2⟩
theorem configsHalves_walk (c : Cf) (slot : Int) (w : World) (hw : Ways w) (hr : CfRaw w c) (_ : (Lit.int .i64 slot).wf = true) :
    Calls Tryd.prog 6 #[.agg #[.int .i64 c.N, .slice c.pA c.pn c.pc, .slice c.sA c.sn c.sc, .int .i64 c.L, .slice c.bA c.bn c.bc, .slice c.tA c.tn c.tc, .int .i64 c.M, .int .i64 c.G, .int .i64 c.F], .int .i64 slot] w fun e w' => e = .returned (.bool true) ∧ Below w.heap.size w w' := by
  by_cases hg : greatB c = true
  · exact halves_great c slot w hw hg
  · have hg := bfalse hg
    obtain ⟨hc, _⟩ := hr.small hg
    by_cases h0 : newE c = 0
    · exact halves_yes c slot w hw hc hg h0
    · exact halves_no c slot w hw hc hg h0
end Go.Proofs.YtibniadebbgjcaaDoor
