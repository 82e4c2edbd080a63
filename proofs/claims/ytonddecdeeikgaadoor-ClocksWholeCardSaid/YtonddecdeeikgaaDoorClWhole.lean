/-
  The law ClocksWhole, walked: a slot that was begun runs to its end, place by place, whatever ages come; none begins but at a sure tick, at an age of place 0; two begin a slot's length apart at least: true; nothing that was there has turned. Conditions: the config's and the steps' reading; the table of directions is as the program's text lays it.
-/
import Derived.Test.YtonddecdeeikgaaDoorCl9
import Derived.Test.YtonddecdeeikgaaDoorOpenSt
import Derived.Deep.Cut
namespace Go.Proofs.YtonddecdeeikgaaDoor
open Go.RowKit Cl Rg
set_option linter.unusedVariables false

/-- The place of what runs, -1 of nothing; how long ago a slot began. -/
def plO : Option Tm → Int
  | some t => t.p
  | none => -1
def InvS (L : Int) : Option Tm → Int → Prop
  | some t, sn => sn = t.p
  | none, sn => L ≤ sn
theorem inv_bd {s L : Int} {o : Option Tm} {sn : Int} (h : InvS L o sn) (ho : OkO s L o) (hL : 1 ≤ L) : 0 ≤ sn := by
  cases o with
  | none => have : L ≤ sn := h; omega
  | some t => have h1 : sn = t.p := h; have := (ho t rfl).2.2.2.2.1; omega
theorem begB_true {s L a : Int} {sure : Bool} (h : begB s L a sure = true) : sure = true ∧ Cl.isAge a = true ∧ (timeM s L a).p = 0 := by
  simp [begB] at h
  exact ⟨h.1.1, h.1.2, h.2⟩
theorem begB_false {s L a : Int} (h : begB s L a true = false) (hi : Cl.isAge a = true) : (timeM s L a).p ≠ 0 := by
  simp [begB, hi] at h
  exact h
theorem ofT_in {s L a : Int} (hi : Cl.isAge a = true) : ofT s L a = timeM s L a ∧ ofE a = 0 := by simp [ofT, ofE, hi]
theorem ofE_out {a : Int} (hi : Cl.isAge a = false) : ofE a = 1 := by simp [ofE, hi]
theorem clocksWhole_none (c : Cf) (A : Option Addr) (n cap : Nat) (w : World) (hw : Ways w) (HN : ∀ u, Below w.heap.size w u → Calls Tryd.prog 8 #[.agg #[.int .i64 c.N, .slice c.pA c.pn c.pc, .slice c.sA c.sn c.sc, .int .i64 c.L, .slice c.bA c.bn c.bc, .slice c.tA c.tn c.tc, .int .i64 c.M, .int .i64 c.G, .int .i64 c.F]] u fun e w' => e = .returned (.pointer none) ∧ Below u.heap.size u w') :
    Calls Tryd.prog 6 #[.agg #[.int .i64 c.N, .slice c.pA c.pn c.pc, .slice c.sA c.sn c.sc, .int .i64 c.L, .slice c.bA c.bn c.bc, .slice c.tA c.tn c.tc, .int .i64 c.M, .int .i64 c.G, .int .i64 c.F], .slice A n cap] w fun e w' => e = .returned (.bool true) ∧ Below w.heap.size w w' := by
  have hB0 : Below w.heap.size w (w.alloc (.cells #[.int .i64 c.N, .slice c.pA c.pn c.pc, .slice c.sA c.sn c.sc, .int .i64 c.L, .slice c.bA c.bn c.bc, .slice c.tA c.tn c.tc, .int .i64 c.M, .int .i64 c.G, .int .i64 c.F] 25)) := below_al (Below.refl w.heap.size w) (.cells #[.int .i64 c.N, .slice c.pA c.pn c.pc, .slice c.sA c.sn c.sc, .int .i64 c.L, .slice c.bA c.bn c.bc, .slice c.tA c.tn c.tc, .int .i64 c.M, .int .i64 c.G, .int .i64 c.F] 25)
  have HM := Lib.hid HN
  clear HN
  go_enter Tryd.func6, Tryd.ntmps6
  go_wp2_with (first
    | (go_at_call 8; (with_reducible refine (HM.out _ hB0).mono ?_); rintro e w1 ⟨rfl, b1⟩; have hB1 := below_then hB0 b1)
    | (go_at_call 9; (with_reducible refine (lives_clk _ (hw.on hB1)).mono ?_); rintro e w2 ⟨rfl, b2⟩))
  go_ret
  exact ⟨rfl, below_then hB1 b2⟩
theorem clocksWhole_long (c : Cf) (A : Option Addr) (n cap : Nat) (w : World) (hw : Ways w) (hc : CfIn w c) (hg : greatB c = false) (h0 : newE c = 0) (hl : 40 < n) :
    Calls Tryd.prog 6 #[.agg #[.int .i64 c.N, .slice c.pA c.pn c.pc, .slice c.sA c.sn c.sc, .int .i64 c.L, .slice c.bA c.bn c.bc, .slice c.tA c.tn c.tc, .int .i64 c.M, .int .i64 c.G, .int .i64 c.F], .slice A n cap] w fun e w' => e = .returned (.bool true) ∧ Below w.heap.size w w' := by
  have hB0 : Below w.heap.size w (w.alloc (.cells #[.int .i64 c.N, .slice c.pA c.pn c.pc, .slice c.sA c.sn c.sc, .int .i64 c.L, .slice c.bA c.bn c.bc, .slice c.tA c.tn c.tc, .int .i64 c.M, .int .i64 c.G, .int .i64 c.F] 25)) := below_al (Below.refl w.heap.size w) (.cells #[.int .i64 c.N, .slice c.pA c.pn c.pc, .slice c.sA c.sn c.sc, .int .i64 c.L, .slice c.bA c.bn c.bc, .slice c.tA c.tn c.tc, .int .i64 c.M, .int .i64 c.G, .int .i64 c.F] 25)
  have HW0 := Lib.hid (hw.on hB0)
  have HIN0 := Lib.hid (hc.on hB0)
  have HB0 := Lib.hid hB0
  have HC0 := Lib.hid (Blk.new w 25 #[.int .i64 c.N, .slice c.pA c.pn c.pc, .slice c.sA c.sn c.sc, .int .i64 c.L, .slice c.bA c.bn c.bc, .slice c.tA c.tn c.tc, .int .i64 c.M, .int .i64 c.G, .int .i64 c.F])
  have HG := Lib.hid hg
  have H0 := Lib.hid h0
  have hl' : (40 : Int) < (n : Int) := by omega
  clear hw hc hg h0 hB0
  go_enter Tryd.func6, Tryd.ntmps6
  go_wp2_with (first
    | (go_at_call 8; (with_reducible refine (lawNet_yes c _ HW0.out HIN0.out HG.out H0.out).mono ?_); rintro e w1 ⟨gN, rfl, hN1, b1⟩; have hC1 := HC0.out.on b1; obtain ⟨k0, k1, k2, k3, k4, k5, k6, k7, k8⟩ := hC1.cf; have kl := hC1.lt; have hB1 := below_then HB0.out b1)
    | (go_at_call 9; (with_reducible refine (lives_clk _ (HW0.out.on b1)).mono ?_); rintro e u2 ⟨rfl, c2⟩))
  go_ret
  exact ⟨rfl, below_then hB1 c2⟩
set_option maxRecDepth 100000 in
set_option maxHeartbeats 40000000 in
theorem clocksWhole_yes (c : Cf) (A : Option Addr) (n cap : Nat) (ss : List St) (w : World) (hw : Ways w) (hc : CfIn w c) (hS : LiesS w w.heap.size A n ss) (hg : greatB c = false) (h0 : newE c = 0) (hl : n ≤ 40) :
    Calls Tryd.prog 6 #[.agg #[.int .i64 c.N, .slice c.pA c.pn c.pc, .slice c.sA c.sn c.sc, .int .i64 c.L, .slice c.bA c.bn c.bc, .slice c.tA c.tn c.tc, .int .i64 c.M, .int .i64 c.G, .int .i64 c.F], .slice A n cap] w fun e w' => e = .returned (.bool true) ∧ Below w.heap.size w w' := by
  have hB0 : Below w.heap.size w (w.alloc (.cells #[.int .i64 c.N, .slice c.pA c.pn c.pc, .slice c.sA c.sn c.sc, .int .i64 c.L, .slice c.bA c.bn c.bc, .slice c.tA c.tn c.tc, .int .i64 c.M, .int .i64 c.G, .int .i64 c.F] 25)) := below_al (Below.refl w.heap.size w) (.cells #[.int .i64 c.N, .slice c.pA c.pn c.pc, .slice c.sA c.sn c.sc, .int .i64 c.L, .slice c.bA c.bn c.bc, .slice c.tA c.tn c.tc, .int .i64 c.M, .int .i64 c.G, .int .i64 c.F] 25)
  have HW0 := Lib.hid (hw.on hB0)
  have HIN0 := Lib.hid (hc.on hB0)
  have HB0 := Lib.hid hB0
  have HC0 := Lib.hid (Blk.new w 25 #[.int .i64 c.N, .slice c.pA c.pn c.pc, .slice c.sA c.sn c.sc, .int .i64 c.L, .slice c.bA c.bn c.bc, .slice c.tA c.tn c.tc, .int .i64 c.M, .int .i64 c.G, .int .i64 c.F])
  have HG := Lib.hid hg
  have H0 := Lib.hid h0
  have HSC := Lib.hid (cf_sc h0)
  have HS := Lib.hid hS
  have hl' : ¬ (40 : Int) < (n : Int) := by omega
  have HL4 := Lib.hid (show c.L ≤ 4096 from HSC.out.l2)
  clear hw hc hg h0 hB0 hS
  go_enter Tryd.func6, Tryd.ntmps6
  go_wp2_with (first
    | (go_at_call 8; (with_reducible refine (lawNet_yes c _ HW0.out HIN0.out HG.out H0.out).mono ?_); rintro e w1 ⟨gN, rfl, hN1, b1⟩; have hC1 := HC0.out.on b1; obtain ⟨k0, k1, k2, k3, k4, k5, k6, k7, k8⟩ := hC1.cf; have kl := hC1.lt; have hB1 := below_then HB0.out b1)
    | (go_at_call 17; (with_reducible refine (nNew _ c.sn c.L w1 hN1).mono ?_); rintro e w2 ⟨g, rfl, hg2, hC2, b2⟩; clear k0 k1 k2 k3 k4 k5 k6 k7 k8 kl; have k3 := (hC1.on b2).cf.2.2.2.1; have kl := (hC1.on b2).lt))
  have HN := Lib.hid hN1
  have HG2 := Lib.hid hg2
  have HW1 := Lib.hid (HW0.out.on b1)
  have HB1 := Lib.hid hB1
  have HB2 := Lib.hid b2
  have HC2 := Lib.hid hC2
  have HCF := Lib.hid hC1
  have HS1 := Lib.hid (HS.out.on hB1)
  clear k3 kl b1 hC1 hB1 hN1 hg2 b2 hC2 HW0 HIN0 HC0 HB0 HS
  go_loopw [7, 8, 9] (fun v7 v8 v9 wr => ∃ (i : Nat) (o : Option Tm) (pl sn : Int), i ≤ n ∧ v9 = .int .i64 i ∧ v7 = .int .i64 pl ∧ v8 = .int .i64 sn ∧ pl = plO o ∧ InvS c.L o sn ∧ sn ≤ 5000 + 300 * i ∧ OkO c.sn c.L o ∧ ClkO wr g c.sn c.L o ∧ Below w1.heap.size w1 wr) (fun _ _ v9 _ => n - (intOf v9).toNat)
  case atStart => exact ⟨0, none, -1, c.L, by omega, rfl, rfl, rfl, rfl, Int.le_refl c.L, by have := HL4.out; omega, okO_none _ _, HC2.out, HB2.out⟩
  case round =>
    obtain ⟨i, oo, pp, nn, hi, rfl, rfl, rfl, hpl, hinv, hsn, hok, hC, hb⟩ := hrel
    clear HC2 HB2
    obtain ⟨u0, rfl⟩ : ∃ u0, u0 = wr := ⟨_, rfl⟩
    by_cases hlt : i < n
    · obtain ⟨b, off, hA, hbl, hcc⟩ := HS1.out.2 (by omega)
      have hst := hcc i hlt
      have hix0 := fun W => idxSteps (n := n) cap hA hlt W
      obtain ⟨o0, ho0⟩ : ∃ o0, o0 = off + i * 4 := ⟨_, rfl⟩
      rw [← ho0] at hst
      simp only [← ho0] at hix0
      obtain ⟨hsa, hsk⟩ := hst
      obtain ⟨⟨av, mv, gv, sv⟩, hx⟩ : ∃ x, x = ss.getD i St.zero := ⟨_, rfl⟩
      rw [← hx] at hsa hsk
      obtain ⟨r1, r2, r3, r4⟩ := hsk
      simp only at r1 r2 r3 r4
      have HST := Lib.hid (show ∀ u, Below w1.heap.size w1 u → u.cell? ⟨b, o0, none⟩ = some (.int .i64 av) ∧ u.cell? ⟨b, o0 + 1, none⟩ = some (.int .u16 mv) ∧ u.cell? ⟨b, o0 + 2, none⟩ = some (.bool gv) ∧ u.cell? ⟨b, o0 + 3, none⟩ = some (.bool sv) from fun u hu => hsa.on hu hbl)
      have hix := hix0
      have di : decide ((i : Int) < (n : Int)) = true := decide_eq_true (by omega)
      have hi1 : (i : Int) < (n : Int) := by omega
      have HR1 := Lib.hid r1
      obtain ⟨q, hq⟩ : ∃ q, q = mv % 300 := ⟨_, rfl⟩
      have hq0 : 0 ≤ q := by omega
      have hq1 : q ≤ 299 := by omega
      have hwm : IntKind.i64.wrap mv = mv := IntWalk.i64_in _ (by omega)
      have htm : mv.tmod 300 = q := by rw [hq]; exact Int.tmod_eq_emod_of_nonneg r3
      have hqm : mv % 300 = q := hq.symm
      have hwq : IntKind.i64.wrap q = q := IntWalk.i64_in _ (by omega)
      obtain ⟨s0, s1, s2, s3⟩ := HST.out _ hb
      clear hcc hsa hx hix0 ho0 hA hq HS1
      go_wp2_with fail
      clear s0 s1 s2 s3
      have HC0 := Lib.hid hC
      have HB0 := Lib.hid hb
      have HPL := Lib.hid hpl
      have HINV0 := Lib.hid hinv
      have HSN0 := Lib.hid hsn
      have HOK0 := Lib.hid hok
      clear hC hb hpl hinv hsn hok
      go_loopw [7, 8, 10, 11] (fun v7 v8 v10 v11 wq => ∃ (j : Nat) (o : Option Tm) (pl sn ag : Int), (j : Int) ≤ q ∧ v11 = .int .i64 j ∧ v7 = .int .i64 pl ∧ v8 = .int .i64 sn ∧ v10 = .int .i64 ag ∧ pl = plO o ∧ InvS c.L o sn ∧ sn ≤ 5000 + 300 * i + j ∧ -9223372036854775808 ≤ ag ∧ OkO c.sn c.L o ∧ ClkO wq g c.sn c.L o ∧ Below w1.heap.size w1 wq) (fun _ _ _ v11 _ => q.toNat - (intOf v11).toNat)
      case atStart => exact ⟨0, oo, pp, nn, av, by omega, rfl, rfl, rfl, rfl, HPL.out, HINV0.out, by have := HSN0.out; omega, HR1.out, HOK0.out, HC0.out, HB0.out⟩
      case round =>
        clear HC0 HB0 HPL HINV0 HSN0 HOK0
        obtain ⟨j, o, pl, sn, ag, hj, rfl, rfl, rfl, rfl, hpl, hinv, hsn, hag0, hok, hC, hb⟩ := hrel
        obtain ⟨s0, s1, s2, s3⟩ := HST.out _ hb
        have HSN := Lib.hid hsn
        have HAG := Lib.hid hag0
        have HOK := Lib.hid hok
        have hn40 : (i : Int) ≤ 40 := by omega
        have L1 := HSC.out.l1
        have L2 := HL4.out
        clear hsn hag0
        by_cases hjq : (j : Int) < q
        · have dj : decide ((j : Int) < q) = true := decide_eq_true hjq
          have k3 := (HCF.out.on hb).cf.2.2.2.1
          have kl := (HCF.out.on hb).lt
          cases o with
          | none =>
            obtain rfl : pl = -1 := hpl
            have hsn : c.L ≤ sn := hinv
            have hwn : IntKind.i64.wrap (sn + 1) = sn + 1 := IntWalk.i64_in _ (by have := HSN.out; omega)
            have dn : decide (sn + 1 < c.L) = false := decide_eq_false (by omega)
            clear hinv hok
            by_cases hbg : begB c.sn c.L ag sv = true
            · obtain ⟨rfl, hi, hp⟩ := begB_true hbg
              obtain ⟨X, hX⟩ : ∃ X, X = timeM c.sn c.L ag := ⟨_, rfl⟩
              rw [← hX] at hp
              have HTK := Lib.hid (show tickO c.sn c.L none ag true = some X by simp only [tickO]; rw [begO, if_pos hbg, hX])
              have HX := Lib.hid (show ofT c.sn c.L ag = X by rw [hX]; exact (ofT_in hi).1)
              have HE := Lib.hid (show ofE ag = 0 from (ofT_in (s := c.sn) (L := c.L) hi).2)
              have HOK2 := Lib.hid (show OkO c.sn c.L (some X) by rw [← HTK.out]; exact tickO_ok HSC.out HOK.out)
              have HXP := Lib.hid hp
              have ep : (X.p == 0) = true := beq_iff_eq.2 hp
              have q1 := tm_neq X.r X.k X.p X.r X.k X.p
              simp only [beq_self_eq_true, Bool.and_self, Bool.not_true] at q1
              clear hbg hi hp hX
              go_upto_region 29 with (first
                | (go_at_call 18; (with_reducible refine (tick_is g c.sn c.L none ag true X true (some X) HTK.out rfl rfl wr hC HSC.out HOK.out).mono ?_); rintro e u1 ⟨rfl, hC1, a1⟩; have d1 := below_al (hb.trans (a1.1.mono HG2.out)) (.cells #[.int .i64 X.r, .int .i64 X.k, .int .i64 X.p] 27); have hC1' := hC1.al (.cells #[.int .i64 X.r, .int .i64 X.k, .int .i64 X.p] 27); have hT1 := Blk.new u1 27 #[.int .i64 X.r, .int .i64 X.k, .int .i64 X.p]; clear s0 s1 s2 s3 k3 kl; obtain ⟨s0, s1, s2, s3⟩ := HST.out _ d1; have k3 := (HCF.out.on d1).cf.2.2.2.1; have kl := (HCF.out.on d1).lt; have t0 := hT1.cell 0; have t1 := hT1.cell 1; have t2 := hT1.cell 2; have tl := hT1.lt; simp only [List.getElem?_toArray, List.getElem?_cons_zero, List.getElem?_cons_succ] at t0 t1 t2)
                | (go_at_call 10; (with_reducible refine (nOf_is _ c.sn c.L ag X HX.out 0 HE.out _ (HN.out.on d1)).mono ?_); rintro e u2 ⟨rfl, a2⟩; have a2' := below_al a2 (.cells #[.int .i64 X.r, .int .i64 X.k, .int .i64 X.p] 27); have d2 := below_then d1 a2'; have hC2 := hC1'.on a2'; have hT2 := hT1.on a2'; have hU2 := Blk.new u2 27 #[.int .i64 X.r, .int .i64 X.k, .int .i64 X.p]; clear t0 t1 t2 tl s0 s1 s2 s3 k3 kl; obtain ⟨s0, s1, s2, s3⟩ := HST.out _ d2; have k3 := (HCF.out.on d2).cf.2.2.2.1; have kl := (HCF.out.on d2).lt; have t0 := hT2.cell 0; have t1 := hT2.cell 1; have t2 := hT2.cell 2; have tl := hT2.lt; simp only [List.getElem?_toArray, List.getElem?_cons_zero, List.getElem?_cons_succ] at t0 t1 t2; have v0 := hU2.cell 0; have v1 := hU2.cell 1; have v2 := hU2.cell 2; have vl := hU2.lt; simp only [List.getElem?_toArray, List.getElem?_cons_zero, List.getElem?_cons_succ] at v0 v1 v2))
              cases gv
              · skip
                go_wp2_with fail
                go_roundw
                case rel => exact ⟨j + 1, (some X), X.p, 0, ag, by omega, by go_num, by first | rfl | go_num, by first | rfl | go_num, by first | rfl | go_num, rfl, HXP.out.symm, by omega, HAG.out, HOK2.out, hC2, d2⟩
                case measure => simp [intOf]; omega
              · by_cases hag : ag < 1125899906842624
                · have hwg : IntKind.i64.wrap (ag + 1) = ag + 1 := IntWalk.i64_in _ (by have := HAG.out; omega)
                  have dg : decide (ag < 1125899906842624) = true := decide_eq_true hag
                  have hag0 := HAG.out
                  go_wp2_with fail
                  go_roundw
                  case rel => exact ⟨j + 1, (some X), X.p, 0, (ag + 1), by omega, by go_num, by first | rfl | go_num, by first | rfl | go_num, by first | rfl | go_num, rfl, HXP.out.symm, by omega, by omega, HOK2.out, hC2, d2⟩
                  case measure => simp [intOf]; omega
                · have dg : decide (ag < 1125899906842624) = false := decide_eq_false hag
                  go_wp2_with fail
                  go_roundw
                  case rel => exact ⟨j + 1, (some X), X.p, 0, ag, by omega, by go_num, by first | rfl | go_num, by first | rfl | go_num, by first | rfl | go_num, rfl, HXP.out.symm, by omega, HAG.out, HOK2.out, hC2, d2⟩
                  case measure => simp [intOf]; omega
            · have hbg' : begB c.sn c.L ag sv = false := by simpa using hbg
              have HTK := Lib.hid (show tickO c.sn c.L none ag sv = none by simp only [tickO]; rw [begO, if_neg hbg])
              have HOK2 := Lib.hid (okO_none c.sn c.L)
              have HINV := Lib.hid (show InvS c.L none (sn + 1) from by show c.L ≤ sn + 1; omega)
              clear hbg
              cases sv
              · obtain ⟨U, hU⟩ : ∃ U, U = ofT c.sn c.L ag := ⟨_, rfl⟩
                obtain ⟨E, hE⟩ : ∃ E, E = ofE ag := ⟨_, rfl⟩
                have HX := Lib.hid hU.symm
                have HE := Lib.hid hE.symm
                clear hU hE hbg'
                go_upto_region 29 with (first
                  | (go_at_call 18; (with_reducible refine (tick_is g c.sn c.L none ag false ⟨0, 0, 0⟩ false none HTK.out rfl rfl wr hC HSC.out HOK.out).mono ?_); rintro e u1 ⟨rfl, hC1, a1⟩; have d1 := below_al (hb.trans (a1.1.mono HG2.out)) (.cells #[.int .i64 0, .int .i64 0, .int .i64 0] 27); have hC1' := hC1.al (.cells #[.int .i64 0, .int .i64 0, .int .i64 0] 27); have hT1 := Blk.new u1 27 #[.int .i64 0, .int .i64 0, .int .i64 0]; clear s0 s1 s2 s3 k3 kl; obtain ⟨s0, s1, s2, s3⟩ := HST.out _ d1; have k3 := (HCF.out.on d1).cf.2.2.2.1; have kl := (HCF.out.on d1).lt; have t0 := hT1.cell 0; have t1 := hT1.cell 1; have t2 := hT1.cell 2; have tl := hT1.lt; simp only [List.getElem?_toArray, List.getElem?_cons_zero, List.getElem?_cons_succ] at t0 t1 t2)
                  | (go_at_call 10; (with_reducible refine (nOf_is _ c.sn c.L ag U HX.out E HE.out _ (HN.out.on d1)).mono ?_); rintro e u2 ⟨rfl, a2⟩; have a2' := below_al a2 (.cells #[.int .i64 U.r, .int .i64 U.k, .int .i64 U.p] 27); have d2 := below_then d1 a2'; have hC2 := hC1'.on a2'; have hT2 := hT1.on a2'; have hU2 := Blk.new u2 27 #[.int .i64 U.r, .int .i64 U.k, .int .i64 U.p]; clear t0 t1 t2 tl s0 s1 s2 s3 k3 kl; obtain ⟨s0, s1, s2, s3⟩ := HST.out _ d2; have k3 := (HCF.out.on d2).cf.2.2.2.1; have kl := (HCF.out.on d2).lt; have t0 := hT2.cell 0; have t1 := hT2.cell 1; have t2 := hT2.cell 2; have tl := hT2.lt; simp only [List.getElem?_toArray, List.getElem?_cons_zero, List.getElem?_cons_succ] at t0 t1 t2; have v0 := hU2.cell 0; have v1 := hU2.cell 1; have v2 := hU2.cell 2; have vl := hU2.lt; simp only [List.getElem?_toArray, List.getElem?_cons_zero, List.getElem?_cons_succ] at v0 v1 v2))
                cases gv
                · skip
                  go_wp2_with fail
                  go_roundw
                  case rel => exact ⟨j + 1, none, (-1), (sn + 1), ag, by omega, by go_num, by first | rfl | go_num, by first | rfl | go_num, by first | rfl | go_num, rfl, HINV.out, by have := HSN.out; omega, HAG.out, HOK2.out, hC2, d2⟩
                  case measure => simp [intOf]; omega
                · by_cases hag : ag < 1125899906842624
                  · have hwg : IntKind.i64.wrap (ag + 1) = ag + 1 := IntWalk.i64_in _ (by have := HAG.out; omega)
                    have dg : decide (ag < 1125899906842624) = true := decide_eq_true hag
                    have hag0 := HAG.out
                    go_wp2_with fail
                    go_roundw
                    case rel => exact ⟨j + 1, none, (-1), (sn + 1), (ag + 1), by omega, by go_num, by first | rfl | go_num, by first | rfl | go_num, by first | rfl | go_num, rfl, HINV.out, by have := HSN.out; omega, by omega, HOK2.out, hC2, d2⟩
                    case measure => simp [intOf]; omega
                  · have dg : decide (ag < 1125899906842624) = false := decide_eq_false hag
                    go_wp2_with fail
                    go_roundw
                    case rel => exact ⟨j + 1, none, (-1), (sn + 1), ag, by omega, by go_num, by first | rfl | go_num, by first | rfl | go_num, by first | rfl | go_num, rfl, HINV.out, by have := HSN.out; omega, HAG.out, HOK2.out, hC2, d2⟩
                    case measure => simp [intOf]; omega
              · by_cases hi : Cl.isAge ag = true
                · obtain ⟨X, hX⟩ : ∃ X, X = timeM c.sn c.L ag := ⟨_, rfl⟩
                  have hp := begB_false hbg' hi
                  rw [← hX] at hp
                  have HX := Lib.hid (show ofT c.sn c.L ag = X by rw [hX]; exact (ofT_in hi).1)
                  have HE := Lib.hid (show ofE ag = 0 from (ofT_in (s := c.sn) (L := c.L) hi).2)
                  have ep : (X.p == 0) = false := beq_eq_false_iff_ne.2 hp
                  clear hi hp hX hbg'
                  go_upto_region 29 with (first
                    | (go_at_call 18; (with_reducible refine (tick_is g c.sn c.L none ag true ⟨0, 0, 0⟩ false none HTK.out rfl rfl wr hC HSC.out HOK.out).mono ?_); rintro e u1 ⟨rfl, hC1, a1⟩; have d1 := below_al (hb.trans (a1.1.mono HG2.out)) (.cells #[.int .i64 0, .int .i64 0, .int .i64 0] 27); have hC1' := hC1.al (.cells #[.int .i64 0, .int .i64 0, .int .i64 0] 27); have hT1 := Blk.new u1 27 #[.int .i64 0, .int .i64 0, .int .i64 0]; clear s0 s1 s2 s3 k3 kl; obtain ⟨s0, s1, s2, s3⟩ := HST.out _ d1; have k3 := (HCF.out.on d1).cf.2.2.2.1; have kl := (HCF.out.on d1).lt; have t0 := hT1.cell 0; have t1 := hT1.cell 1; have t2 := hT1.cell 2; have tl := hT1.lt; simp only [List.getElem?_toArray, List.getElem?_cons_zero, List.getElem?_cons_succ] at t0 t1 t2)
                    | (go_at_call 10; (with_reducible refine (nOf_is _ c.sn c.L ag X HX.out 0 HE.out _ (HN.out.on d1)).mono ?_); rintro e u2 ⟨rfl, a2⟩; have a2' := below_al a2 (.cells #[.int .i64 X.r, .int .i64 X.k, .int .i64 X.p] 27); have d2 := below_then d1 a2'; have hC2 := hC1'.on a2'; have hT2 := hT1.on a2'; have hU2 := Blk.new u2 27 #[.int .i64 X.r, .int .i64 X.k, .int .i64 X.p]; clear t0 t1 t2 tl s0 s1 s2 s3 k3 kl; obtain ⟨s0, s1, s2, s3⟩ := HST.out _ d2; have k3 := (HCF.out.on d2).cf.2.2.2.1; have kl := (HCF.out.on d2).lt; have t0 := hT2.cell 0; have t1 := hT2.cell 1; have t2 := hT2.cell 2; have tl := hT2.lt; simp only [List.getElem?_toArray, List.getElem?_cons_zero, List.getElem?_cons_succ] at t0 t1 t2; have v0 := hU2.cell 0; have v1 := hU2.cell 1; have v2 := hU2.cell 2; have vl := hU2.lt; simp only [List.getElem?_toArray, List.getElem?_cons_zero, List.getElem?_cons_succ] at v0 v1 v2))
                  cases gv
                  · skip
                    go_wp2_with fail
                    go_roundw
                    case rel => exact ⟨j + 1, none, (-1), (sn + 1), ag, by omega, by go_num, by first | rfl | go_num, by first | rfl | go_num, by first | rfl | go_num, rfl, HINV.out, by have := HSN.out; omega, HAG.out, HOK2.out, hC2, d2⟩
                    case measure => simp [intOf]; omega
                  · by_cases hag : ag < 1125899906842624
                    · have hwg : IntKind.i64.wrap (ag + 1) = ag + 1 := IntWalk.i64_in _ (by have := HAG.out; omega)
                      have dg : decide (ag < 1125899906842624) = true := decide_eq_true hag
                      have hag0 := HAG.out
                      go_wp2_with fail
                      go_roundw
                      case rel => exact ⟨j + 1, none, (-1), (sn + 1), (ag + 1), by omega, by go_num, by first | rfl | go_num, by first | rfl | go_num, by first | rfl | go_num, rfl, HINV.out, by have := HSN.out; omega, by omega, HOK2.out, hC2, d2⟩
                      case measure => simp [intOf]; omega
                    · have dg : decide (ag < 1125899906842624) = false := decide_eq_false hag
                      go_wp2_with fail
                      go_roundw
                      case rel => exact ⟨j + 1, none, (-1), (sn + 1), ag, by omega, by go_num, by first | rfl | go_num, by first | rfl | go_num, by first | rfl | go_num, rfl, HINV.out, by have := HSN.out; omega, HAG.out, HOK2.out, hC2, d2⟩
                      case measure => simp [intOf]; omega
                · have HE := Lib.hid (ofE_out (show Cl.isAge ag = false by simpa using hi))
                  obtain ⟨U, hU⟩ : ∃ U, U = ofT c.sn c.L ag := ⟨_, rfl⟩
                  have HX := Lib.hid hU.symm
                  clear hi hU hbg'
                  go_upto_region 29 with (first
                    | (go_at_call 18; (with_reducible refine (tick_is g c.sn c.L none ag true ⟨0, 0, 0⟩ false none HTK.out rfl rfl wr hC HSC.out HOK.out).mono ?_); rintro e u1 ⟨rfl, hC1, a1⟩; have d1 := below_al (hb.trans (a1.1.mono HG2.out)) (.cells #[.int .i64 0, .int .i64 0, .int .i64 0] 27); have hC1' := hC1.al (.cells #[.int .i64 0, .int .i64 0, .int .i64 0] 27); have hT1 := Blk.new u1 27 #[.int .i64 0, .int .i64 0, .int .i64 0]; clear s0 s1 s2 s3 k3 kl; obtain ⟨s0, s1, s2, s3⟩ := HST.out _ d1; have k3 := (HCF.out.on d1).cf.2.2.2.1; have kl := (HCF.out.on d1).lt; have t0 := hT1.cell 0; have t1 := hT1.cell 1; have t2 := hT1.cell 2; have tl := hT1.lt; simp only [List.getElem?_toArray, List.getElem?_cons_zero, List.getElem?_cons_succ] at t0 t1 t2)
                    | (go_at_call 10; (with_reducible refine (nOf_is _ c.sn c.L ag U HX.out 1 HE.out _ (HN.out.on d1)).mono ?_); rintro e u2 ⟨rfl, a2⟩; have a2' := below_al a2 (.cells #[.int .i64 U.r, .int .i64 U.k, .int .i64 U.p] 27); have d2 := below_then d1 a2'; have hC2 := hC1'.on a2'; have hT2 := hT1.on a2'; have hU2 := Blk.new u2 27 #[.int .i64 U.r, .int .i64 U.k, .int .i64 U.p]; clear t0 t1 t2 tl s0 s1 s2 s3 k3 kl; obtain ⟨s0, s1, s2, s3⟩ := HST.out _ d2; have k3 := (HCF.out.on d2).cf.2.2.2.1; have kl := (HCF.out.on d2).lt; have t0 := hT2.cell 0; have t1 := hT2.cell 1; have t2 := hT2.cell 2; have tl := hT2.lt; simp only [List.getElem?_toArray, List.getElem?_cons_zero, List.getElem?_cons_succ] at t0 t1 t2; have v0 := hU2.cell 0; have v1 := hU2.cell 1; have v2 := hU2.cell 2; have vl := hU2.lt; simp only [List.getElem?_toArray, List.getElem?_cons_zero, List.getElem?_cons_succ] at v0 v1 v2))
                  cases gv
                  · skip
                    go_wp2_with fail
                    go_roundw
                    case rel => exact ⟨j + 1, none, (-1), (sn + 1), ag, by omega, by go_num, by first | rfl | go_num, by first | rfl | go_num, by first | rfl | go_num, rfl, HINV.out, by have := HSN.out; omega, HAG.out, HOK2.out, hC2, d2⟩
                    case measure => simp [intOf]; omega
                  · by_cases hag : ag < 1125899906842624
                    · have hwg : IntKind.i64.wrap (ag + 1) = ag + 1 := IntWalk.i64_in _ (by have := HAG.out; omega)
                      have dg : decide (ag < 1125899906842624) = true := decide_eq_true hag
                      have hag0 := HAG.out
                      go_wp2_with fail
                      go_roundw
                      case rel => exact ⟨j + 1, none, (-1), (sn + 1), (ag + 1), by omega, by go_num, by first | rfl | go_num, by first | rfl | go_num, by first | rfl | go_num, rfl, HINV.out, by have := HSN.out; omega, by omega, HOK2.out, hC2, d2⟩
                      case measure => simp [intOf]; omega
                    · have dg : decide (ag < 1125899906842624) = false := decide_eq_false hag
                      go_wp2_with fail
                      go_roundw
                      case rel => exact ⟨j + 1, none, (-1), (sn + 1), ag, by omega, by go_num, by first | rfl | go_num, by first | rfl | go_num, by first | rfl | go_num, rfl, HINV.out, by have := HSN.out; omega, HAG.out, HOK2.out, hC2, d2⟩
                      case measure => simp [intOf]; omega
          | some t =>
            obtain rfl : pl = t.p := hpl
            obtain rfl : sn = t.p := hinv
            obtain ⟨-, -, -, -, p0, p1⟩ := hok t rfl
            have hwn : IntKind.i64.wrap (t.p + 1) = t.p + 1 := IntWalk.i64_in _ (by omega)
            have dp0 : decide (0 ≤ t.p) = true := decide_eq_true p0
            have dp1 : decide (t.p < 0) = false := decide_eq_false (by omega)
            clear hok
            by_cases ht : t.p + 1 < c.L
            · have HTK := Lib.hid (show tickO c.sn c.L (some t) ag sv = some ⟨t.r, t.k, t.p + 1⟩ by simp only [tickO]; rw [if_pos ht])
              have HOK2 := Lib.hid (show OkO c.sn c.L (some ⟨t.r, t.k, t.p + 1⟩) by rw [← HTK.out]; exact tickO_ok HSC.out HOK.out)
              obtain ⟨U, hU⟩ : ∃ U, U = ofT c.sn c.L ag := ⟨_, rfl⟩
              obtain ⟨E, hE⟩ : ∃ E, E = ofE ag := ⟨_, rfl⟩
              have HX := Lib.hid hU.symm
              have HE := Lib.hid hE.symm
              have dl : decide (t.p + 1 < c.L) = true := decide_eq_true ht
              have el : (t.p + 1 == c.L) = false := beq_eq_false_iff_ne.2 (by omega)
              have ez : (t.p + 1 == 0) = false := beq_eq_false_iff_ne.2 (by omega)
              clear hU hE
              go_upto_region 29 with (first
                | (go_at_call 18; (with_reducible refine (tick_is g c.sn c.L (some t) ag sv ⟨t.r, t.k, t.p + 1⟩ true (some ⟨t.r, t.k, t.p + 1⟩) HTK.out rfl rfl wr hC HSC.out HOK.out).mono ?_); rintro e u1 ⟨rfl, hC1, a1⟩; have d1 := below_al (hb.trans (a1.1.mono HG2.out)) (.cells #[.int .i64 t.r, .int .i64 t.k, .int .i64 (t.p + 1)] 27); have hC1' := hC1.al (.cells #[.int .i64 t.r, .int .i64 t.k, .int .i64 (t.p + 1)] 27); have hT1 := Blk.new u1 27 #[.int .i64 t.r, .int .i64 t.k, .int .i64 (t.p + 1)]; clear s0 s1 s2 s3 k3 kl; obtain ⟨s0, s1, s2, s3⟩ := HST.out _ d1; have k3 := (HCF.out.on d1).cf.2.2.2.1; have kl := (HCF.out.on d1).lt; have t0 := hT1.cell 0; have t1 := hT1.cell 1; have t2 := hT1.cell 2; have tl := hT1.lt; simp only [List.getElem?_toArray, List.getElem?_cons_zero, List.getElem?_cons_succ] at t0 t1 t2)
                | (go_at_call 10; (with_reducible refine (nOf_is _ c.sn c.L ag U HX.out E HE.out _ (HN.out.on d1)).mono ?_); rintro e u2 ⟨rfl, a2⟩; have a2' := below_al a2 (.cells #[.int .i64 U.r, .int .i64 U.k, .int .i64 U.p] 27); have d2 := below_then d1 a2'; have hC2 := hC1'.on a2'; have hT2 := hT1.on a2'; have hU2 := Blk.new u2 27 #[.int .i64 U.r, .int .i64 U.k, .int .i64 U.p]; clear t0 t1 t2 tl s0 s1 s2 s3 k3 kl; obtain ⟨s0, s1, s2, s3⟩ := HST.out _ d2; have k3 := (HCF.out.on d2).cf.2.2.2.1; have kl := (HCF.out.on d2).lt; have t0 := hT2.cell 0; have t1 := hT2.cell 1; have t2 := hT2.cell 2; have tl := hT2.lt; simp only [List.getElem?_toArray, List.getElem?_cons_zero, List.getElem?_cons_succ] at t0 t1 t2; have v0 := hU2.cell 0; have v1 := hU2.cell 1; have v2 := hU2.cell 2; have vl := hU2.lt; simp only [List.getElem?_toArray, List.getElem?_cons_zero, List.getElem?_cons_succ] at v0 v1 v2))
              cases gv
              · skip
                go_wp2_with fail
                go_roundw
                case rel => exact ⟨j + 1, (some ⟨t.r, t.k, t.p + 1⟩), (t.p + 1), (t.p + 1), ag, by omega, by go_num, by first | rfl | go_num, by first | rfl | go_num, by first | rfl | go_num, rfl, rfl, by have := HSN.out; omega, HAG.out, HOK2.out, hC2, d2⟩
                case measure => simp [intOf]; omega
              · by_cases hag : ag < 1125899906842624
                · have hwg : IntKind.i64.wrap (ag + 1) = ag + 1 := IntWalk.i64_in _ (by have := HAG.out; omega)
                  have dg : decide (ag < 1125899906842624) = true := decide_eq_true hag
                  have hag0 := HAG.out
                  go_wp2_with fail
                  go_roundw
                  case rel => exact ⟨j + 1, (some ⟨t.r, t.k, t.p + 1⟩), (t.p + 1), (t.p + 1), (ag + 1), by omega, by go_num, by first | rfl | go_num, by first | rfl | go_num, by first | rfl | go_num, rfl, rfl, by have := HSN.out; omega, by omega, HOK2.out, hC2, d2⟩
                  case measure => simp [intOf]; omega
                · have dg : decide (ag < 1125899906842624) = false := decide_eq_false hag
                  go_wp2_with fail
                  go_roundw
                  case rel => exact ⟨j + 1, (some ⟨t.r, t.k, t.p + 1⟩), (t.p + 1), (t.p + 1), ag, by omega, by go_num, by first | rfl | go_num, by first | rfl | go_num, by first | rfl | go_num, rfl, rfl, by have := HSN.out; omega, HAG.out, HOK2.out, hC2, d2⟩
                  case measure => simp [intOf]; omega
            · have dl : decide (t.p + 1 < c.L) = false := decide_eq_false ht
              have el : (t.p + 1 == c.L) = true := beq_iff_eq.2 (by omega)
              by_cases hbg : begB c.sn c.L ag sv = true
              · obtain ⟨rfl, hi, hp⟩ := begB_true hbg
                obtain ⟨X, hX⟩ : ∃ X, X = timeM c.sn c.L ag := ⟨_, rfl⟩
                rw [← hX] at hp
                have HTK := Lib.hid (show tickO c.sn c.L (some t) ag true = some X by simp only [tickO]; rw [if_neg ht, begO, if_pos hbg, hX])
                have HX := Lib.hid (show ofT c.sn c.L ag = X by rw [hX]; exact (ofT_in hi).1)
                have HE := Lib.hid (show ofE ag = 0 from (ofT_in (s := c.sn) (L := c.L) hi).2)
                have HOK2 := Lib.hid (show OkO c.sn c.L (some X) by rw [← HTK.out]; exact tickO_ok HSC.out HOK.out)
                have HXP := Lib.hid hp
                have ep : (X.p == 0) = true := beq_iff_eq.2 hp
                have q1 := tm_neq X.r X.k X.p X.r X.k X.p
                simp only [beq_self_eq_true, Bool.and_self, Bool.not_true] at q1
                clear hbg hi hp hX
                go_upto_region 29 with (first
                  | (go_at_call 18; (with_reducible refine (tick_is g c.sn c.L (some t) ag true X true (some X) HTK.out rfl rfl wr hC HSC.out HOK.out).mono ?_); rintro e u1 ⟨rfl, hC1, a1⟩; have d1 := below_al (hb.trans (a1.1.mono HG2.out)) (.cells #[.int .i64 X.r, .int .i64 X.k, .int .i64 X.p] 27); have hC1' := hC1.al (.cells #[.int .i64 X.r, .int .i64 X.k, .int .i64 X.p] 27); have hT1 := Blk.new u1 27 #[.int .i64 X.r, .int .i64 X.k, .int .i64 X.p]; clear s0 s1 s2 s3 k3 kl; obtain ⟨s0, s1, s2, s3⟩ := HST.out _ d1; have k3 := (HCF.out.on d1).cf.2.2.2.1; have kl := (HCF.out.on d1).lt; have t0 := hT1.cell 0; have t1 := hT1.cell 1; have t2 := hT1.cell 2; have tl := hT1.lt; simp only [List.getElem?_toArray, List.getElem?_cons_zero, List.getElem?_cons_succ] at t0 t1 t2)
                  | (go_at_call 10; (with_reducible refine (nOf_is _ c.sn c.L ag X HX.out 0 HE.out _ (HN.out.on d1)).mono ?_); rintro e u2 ⟨rfl, a2⟩; have a2' := below_al a2 (.cells #[.int .i64 X.r, .int .i64 X.k, .int .i64 X.p] 27); have d2 := below_then d1 a2'; have hC2 := hC1'.on a2'; have hT2 := hT1.on a2'; have hU2 := Blk.new u2 27 #[.int .i64 X.r, .int .i64 X.k, .int .i64 X.p]; clear t0 t1 t2 tl s0 s1 s2 s3 k3 kl; obtain ⟨s0, s1, s2, s3⟩ := HST.out _ d2; have k3 := (HCF.out.on d2).cf.2.2.2.1; have kl := (HCF.out.on d2).lt; have t0 := hT2.cell 0; have t1 := hT2.cell 1; have t2 := hT2.cell 2; have tl := hT2.lt; simp only [List.getElem?_toArray, List.getElem?_cons_zero, List.getElem?_cons_succ] at t0 t1 t2; have v0 := hU2.cell 0; have v1 := hU2.cell 1; have v2 := hU2.cell 2; have vl := hU2.lt; simp only [List.getElem?_toArray, List.getElem?_cons_zero, List.getElem?_cons_succ] at v0 v1 v2))
                cases gv
                · skip
                  go_wp2_with fail
                  go_roundw
                  case rel => exact ⟨j + 1, (some X), X.p, 0, ag, by omega, by go_num, by first | rfl | go_num, by first | rfl | go_num, by first | rfl | go_num, rfl, HXP.out.symm, by omega, HAG.out, HOK2.out, hC2, d2⟩
                  case measure => simp [intOf]; omega
                · by_cases hag : ag < 1125899906842624
                  · have hwg : IntKind.i64.wrap (ag + 1) = ag + 1 := IntWalk.i64_in _ (by have := HAG.out; omega)
                    have dg : decide (ag < 1125899906842624) = true := decide_eq_true hag
                    have hag0 := HAG.out
                    go_wp2_with fail
                    go_roundw
                    case rel => exact ⟨j + 1, (some X), X.p, 0, (ag + 1), by omega, by go_num, by first | rfl | go_num, by first | rfl | go_num, by first | rfl | go_num, rfl, HXP.out.symm, by omega, by omega, HOK2.out, hC2, d2⟩
                    case measure => simp [intOf]; omega
                  · have dg : decide (ag < 1125899906842624) = false := decide_eq_false hag
                    go_wp2_with fail
                    go_roundw
                    case rel => exact ⟨j + 1, (some X), X.p, 0, ag, by omega, by go_num, by first | rfl | go_num, by first | rfl | go_num, by first | rfl | go_num, rfl, HXP.out.symm, by omega, HAG.out, HOK2.out, hC2, d2⟩
                    case measure => simp [intOf]; omega
              · have hbg' : begB c.sn c.L ag sv = false := by simpa using hbg
                have HTK := Lib.hid (show tickO c.sn c.L (some t) ag sv = none by simp only [tickO]; rw [if_neg ht, begO, if_neg hbg])
                have HOK2 := Lib.hid (okO_none c.sn c.L)
                have HINV := Lib.hid (show InvS c.L none (t.p + 1) from by show c.L ≤ t.p + 1; omega)
                clear hbg
                cases sv
                · obtain ⟨U, hU⟩ : ∃ U, U = ofT c.sn c.L ag := ⟨_, rfl⟩
                  obtain ⟨E, hE⟩ : ∃ E, E = ofE ag := ⟨_, rfl⟩
                  have HX := Lib.hid hU.symm
                  have HE := Lib.hid hE.symm
                  clear hU hE hbg'
                  go_upto_region 29 with (first
                    | (go_at_call 18; (with_reducible refine (tick_is g c.sn c.L (some t) ag false ⟨0, 0, 0⟩ false none HTK.out rfl rfl wr hC HSC.out HOK.out).mono ?_); rintro e u1 ⟨rfl, hC1, a1⟩; have d1 := below_al (hb.trans (a1.1.mono HG2.out)) (.cells #[.int .i64 0, .int .i64 0, .int .i64 0] 27); have hC1' := hC1.al (.cells #[.int .i64 0, .int .i64 0, .int .i64 0] 27); have hT1 := Blk.new u1 27 #[.int .i64 0, .int .i64 0, .int .i64 0]; clear s0 s1 s2 s3 k3 kl; obtain ⟨s0, s1, s2, s3⟩ := HST.out _ d1; have k3 := (HCF.out.on d1).cf.2.2.2.1; have kl := (HCF.out.on d1).lt; have t0 := hT1.cell 0; have t1 := hT1.cell 1; have t2 := hT1.cell 2; have tl := hT1.lt; simp only [List.getElem?_toArray, List.getElem?_cons_zero, List.getElem?_cons_succ] at t0 t1 t2)
                    | (go_at_call 10; (with_reducible refine (nOf_is _ c.sn c.L ag U HX.out E HE.out _ (HN.out.on d1)).mono ?_); rintro e u2 ⟨rfl, a2⟩; have a2' := below_al a2 (.cells #[.int .i64 U.r, .int .i64 U.k, .int .i64 U.p] 27); have d2 := below_then d1 a2'; have hC2 := hC1'.on a2'; have hT2 := hT1.on a2'; have hU2 := Blk.new u2 27 #[.int .i64 U.r, .int .i64 U.k, .int .i64 U.p]; clear t0 t1 t2 tl s0 s1 s2 s3 k3 kl; obtain ⟨s0, s1, s2, s3⟩ := HST.out _ d2; have k3 := (HCF.out.on d2).cf.2.2.2.1; have kl := (HCF.out.on d2).lt; have t0 := hT2.cell 0; have t1 := hT2.cell 1; have t2 := hT2.cell 2; have tl := hT2.lt; simp only [List.getElem?_toArray, List.getElem?_cons_zero, List.getElem?_cons_succ] at t0 t1 t2; have v0 := hU2.cell 0; have v1 := hU2.cell 1; have v2 := hU2.cell 2; have vl := hU2.lt; simp only [List.getElem?_toArray, List.getElem?_cons_zero, List.getElem?_cons_succ] at v0 v1 v2))
                  cases gv
                  · skip
                    go_wp2_with fail
                    go_roundw
                    case rel => exact ⟨j + 1, none, (-1), (t.p + 1), ag, by omega, by go_num, by first | rfl | go_num, by first | rfl | go_num, by first | rfl | go_num, rfl, HINV.out, by have := HSN.out; omega, HAG.out, HOK2.out, hC2, d2⟩
                    case measure => simp [intOf]; omega
                  · by_cases hag : ag < 1125899906842624
                    · have hwg : IntKind.i64.wrap (ag + 1) = ag + 1 := IntWalk.i64_in _ (by have := HAG.out; omega)
                      have dg : decide (ag < 1125899906842624) = true := decide_eq_true hag
                      have hag0 := HAG.out
                      go_wp2_with fail
                      go_roundw
                      case rel => exact ⟨j + 1, none, (-1), (t.p + 1), (ag + 1), by omega, by go_num, by first | rfl | go_num, by first | rfl | go_num, by first | rfl | go_num, rfl, HINV.out, by have := HSN.out; omega, by omega, HOK2.out, hC2, d2⟩
                      case measure => simp [intOf]; omega
                    · have dg : decide (ag < 1125899906842624) = false := decide_eq_false hag
                      go_wp2_with fail
                      go_roundw
                      case rel => exact ⟨j + 1, none, (-1), (t.p + 1), ag, by omega, by go_num, by first | rfl | go_num, by first | rfl | go_num, by first | rfl | go_num, rfl, HINV.out, by have := HSN.out; omega, HAG.out, HOK2.out, hC2, d2⟩
                      case measure => simp [intOf]; omega
                · by_cases hi : Cl.isAge ag = true
                  · obtain ⟨X, hX⟩ : ∃ X, X = timeM c.sn c.L ag := ⟨_, rfl⟩
                    have hp := begB_false hbg' hi
                    rw [← hX] at hp
                    have HX := Lib.hid (show ofT c.sn c.L ag = X by rw [hX]; exact (ofT_in hi).1)
                    have HE := Lib.hid (show ofE ag = 0 from (ofT_in (s := c.sn) (L := c.L) hi).2)
                    have ep : (X.p == 0) = false := beq_eq_false_iff_ne.2 hp
                    clear hi hp hX hbg'
                    go_upto_region 29 with (first
                      | (go_at_call 18; (with_reducible refine (tick_is g c.sn c.L (some t) ag true ⟨0, 0, 0⟩ false none HTK.out rfl rfl wr hC HSC.out HOK.out).mono ?_); rintro e u1 ⟨rfl, hC1, a1⟩; have d1 := below_al (hb.trans (a1.1.mono HG2.out)) (.cells #[.int .i64 0, .int .i64 0, .int .i64 0] 27); have hC1' := hC1.al (.cells #[.int .i64 0, .int .i64 0, .int .i64 0] 27); have hT1 := Blk.new u1 27 #[.int .i64 0, .int .i64 0, .int .i64 0]; clear s0 s1 s2 s3 k3 kl; obtain ⟨s0, s1, s2, s3⟩ := HST.out _ d1; have k3 := (HCF.out.on d1).cf.2.2.2.1; have kl := (HCF.out.on d1).lt; have t0 := hT1.cell 0; have t1 := hT1.cell 1; have t2 := hT1.cell 2; have tl := hT1.lt; simp only [List.getElem?_toArray, List.getElem?_cons_zero, List.getElem?_cons_succ] at t0 t1 t2)
                      | (go_at_call 10; (with_reducible refine (nOf_is _ c.sn c.L ag X HX.out 0 HE.out _ (HN.out.on d1)).mono ?_); rintro e u2 ⟨rfl, a2⟩; have a2' := below_al a2 (.cells #[.int .i64 X.r, .int .i64 X.k, .int .i64 X.p] 27); have d2 := below_then d1 a2'; have hC2 := hC1'.on a2'; have hT2 := hT1.on a2'; have hU2 := Blk.new u2 27 #[.int .i64 X.r, .int .i64 X.k, .int .i64 X.p]; clear t0 t1 t2 tl s0 s1 s2 s3 k3 kl; obtain ⟨s0, s1, s2, s3⟩ := HST.out _ d2; have k3 := (HCF.out.on d2).cf.2.2.2.1; have kl := (HCF.out.on d2).lt; have t0 := hT2.cell 0; have t1 := hT2.cell 1; have t2 := hT2.cell 2; have tl := hT2.lt; simp only [List.getElem?_toArray, List.getElem?_cons_zero, List.getElem?_cons_succ] at t0 t1 t2; have v0 := hU2.cell 0; have v1 := hU2.cell 1; have v2 := hU2.cell 2; have vl := hU2.lt; simp only [List.getElem?_toArray, List.getElem?_cons_zero, List.getElem?_cons_succ] at v0 v1 v2))
                    cases gv
                    · skip
                      go_wp2_with fail
                      go_roundw
                      case rel => exact ⟨j + 1, none, (-1), (t.p + 1), ag, by omega, by go_num, by first | rfl | go_num, by first | rfl | go_num, by first | rfl | go_num, rfl, HINV.out, by have := HSN.out; omega, HAG.out, HOK2.out, hC2, d2⟩
                      case measure => simp [intOf]; omega
                    · by_cases hag : ag < 1125899906842624
                      · have hwg : IntKind.i64.wrap (ag + 1) = ag + 1 := IntWalk.i64_in _ (by have := HAG.out; omega)
                        have dg : decide (ag < 1125899906842624) = true := decide_eq_true hag
                        have hag0 := HAG.out
                        go_wp2_with fail
                        go_roundw
                        case rel => exact ⟨j + 1, none, (-1), (t.p + 1), (ag + 1), by omega, by go_num, by first | rfl | go_num, by first | rfl | go_num, by first | rfl | go_num, rfl, HINV.out, by have := HSN.out; omega, by omega, HOK2.out, hC2, d2⟩
                        case measure => simp [intOf]; omega
                      · have dg : decide (ag < 1125899906842624) = false := decide_eq_false hag
                        go_wp2_with fail
                        go_roundw
                        case rel => exact ⟨j + 1, none, (-1), (t.p + 1), ag, by omega, by go_num, by first | rfl | go_num, by first | rfl | go_num, by first | rfl | go_num, rfl, HINV.out, by have := HSN.out; omega, HAG.out, HOK2.out, hC2, d2⟩
                        case measure => simp [intOf]; omega
                  · have HE := Lib.hid (ofE_out (show Cl.isAge ag = false by simpa using hi))
                    obtain ⟨U, hU⟩ : ∃ U, U = ofT c.sn c.L ag := ⟨_, rfl⟩
                    have HX := Lib.hid hU.symm
                    clear hi hU hbg'
                    go_upto_region 29 with (first
                      | (go_at_call 18; (with_reducible refine (tick_is g c.sn c.L (some t) ag true ⟨0, 0, 0⟩ false none HTK.out rfl rfl wr hC HSC.out HOK.out).mono ?_); rintro e u1 ⟨rfl, hC1, a1⟩; have d1 := below_al (hb.trans (a1.1.mono HG2.out)) (.cells #[.int .i64 0, .int .i64 0, .int .i64 0] 27); have hC1' := hC1.al (.cells #[.int .i64 0, .int .i64 0, .int .i64 0] 27); have hT1 := Blk.new u1 27 #[.int .i64 0, .int .i64 0, .int .i64 0]; clear s0 s1 s2 s3 k3 kl; obtain ⟨s0, s1, s2, s3⟩ := HST.out _ d1; have k3 := (HCF.out.on d1).cf.2.2.2.1; have kl := (HCF.out.on d1).lt; have t0 := hT1.cell 0; have t1 := hT1.cell 1; have t2 := hT1.cell 2; have tl := hT1.lt; simp only [List.getElem?_toArray, List.getElem?_cons_zero, List.getElem?_cons_succ] at t0 t1 t2)
                      | (go_at_call 10; (with_reducible refine (nOf_is _ c.sn c.L ag U HX.out 1 HE.out _ (HN.out.on d1)).mono ?_); rintro e u2 ⟨rfl, a2⟩; have a2' := below_al a2 (.cells #[.int .i64 U.r, .int .i64 U.k, .int .i64 U.p] 27); have d2 := below_then d1 a2'; have hC2 := hC1'.on a2'; have hT2 := hT1.on a2'; have hU2 := Blk.new u2 27 #[.int .i64 U.r, .int .i64 U.k, .int .i64 U.p]; clear t0 t1 t2 tl s0 s1 s2 s3 k3 kl; obtain ⟨s0, s1, s2, s3⟩ := HST.out _ d2; have k3 := (HCF.out.on d2).cf.2.2.2.1; have kl := (HCF.out.on d2).lt; have t0 := hT2.cell 0; have t1 := hT2.cell 1; have t2 := hT2.cell 2; have tl := hT2.lt; simp only [List.getElem?_toArray, List.getElem?_cons_zero, List.getElem?_cons_succ] at t0 t1 t2; have v0 := hU2.cell 0; have v1 := hU2.cell 1; have v2 := hU2.cell 2; have vl := hU2.lt; simp only [List.getElem?_toArray, List.getElem?_cons_zero, List.getElem?_cons_succ] at v0 v1 v2))
                    cases gv
                    · skip
                      go_wp2_with fail
                      go_roundw
                      case rel => exact ⟨j + 1, none, (-1), (t.p + 1), ag, by omega, by go_num, by first | rfl | go_num, by first | rfl | go_num, by first | rfl | go_num, rfl, HINV.out, by have := HSN.out; omega, HAG.out, HOK2.out, hC2, d2⟩
                      case measure => simp [intOf]; omega
                    · by_cases hag : ag < 1125899906842624
                      · have hwg : IntKind.i64.wrap (ag + 1) = ag + 1 := IntWalk.i64_in _ (by have := HAG.out; omega)
                        have dg : decide (ag < 1125899906842624) = true := decide_eq_true hag
                        have hag0 := HAG.out
                        go_wp2_with fail
                        go_roundw
                        case rel => exact ⟨j + 1, none, (-1), (t.p + 1), (ag + 1), by omega, by go_num, by first | rfl | go_num, by first | rfl | go_num, by first | rfl | go_num, rfl, HINV.out, by have := HSN.out; omega, by omega, HOK2.out, hC2, d2⟩
                        case measure => simp [intOf]; omega
                      · have dg : decide (ag < 1125899906842624) = false := decide_eq_false hag
                        go_wp2_with fail
                        go_roundw
                        case rel => exact ⟨j + 1, none, (-1), (t.p + 1), ag, by omega, by go_num, by first | rfl | go_num, by first | rfl | go_num, by first | rfl | go_num, rfl, HINV.out, by have := HSN.out; omega, HAG.out, HOK2.out, hC2, d2⟩
                        case measure => simp [intOf]; omega
        · have dj : decide ((j : Int) < q) = false := decide_eq_false hjq
          have hwi : IntKind.i64.wrap ((i : Int) + 1) = (i : Int) + 1 := IntWalk.i64_in _ (by omega)
          clear HST
          go_wp2_with fail
          go_roundw
          case rel => exact ⟨i + 1, o, pl, sn, by omega, by go_num, rfl, rfl, hpl, hinv, by have := HSN.out; omega, hok, hC, hb⟩
          case measure => simp [intOf]; omega
    · have di : decide ((i : Int) < (n : Int)) = false := decide_eq_false (by omega)
      clear hC hok hpl hinv hsn
      go_wp2_with (go_at_call 9; (with_reducible refine (lives_clk _ (HW1.out.on hb)).mono ?_); rintro e u2 ⟨rfl, c2⟩)
      go_ret
      exact ⟨rfl, below_then (below_then HB1.out hb) c2⟩
theorem clocksWhole_walk (c : Cf) (A : Option Addr) (n cap : Nat) (ss : List St) (W : World) (hw : Ways W) (hc : CfRaw W c) (hS : LiesS W W.heap.size A n ss) :
    Calls Tryd.prog 6 #[.agg #[.int .i64 c.N, .slice c.pA c.pn c.pc, .slice c.sA c.sn c.sc, .int .i64 c.L, .slice c.bA c.bn c.bc, .slice c.tA c.tn c.tc, .int .i64 c.M, .int .i64 c.G, .int .i64 c.F], .slice A n cap] W fun e w' => e = .returned (.bool true) ∧ Below W.heap.size W w' := by
  by_cases hg : greatB c = true
  · exact clocksWhole_none c A n cap W hw (fun u _ => lawNet_great c u hg)
  · have hg' : greatB c = false := by simpa using hg
    obtain ⟨hin, -⟩ := hc.small hg'
    by_cases h0 : newE c = 0
    · by_cases hl : n ≤ 40
      · exact clocksWhole_yes c A n cap ss W hw hin hS hg' h0 hl
      · exact clocksWhole_long c A n cap W hw hin hg' h0 (by omega)
    · exact clocksWhole_none c A n cap W hw (fun u hb => lawNet_bad c u (hin.on hb) hg' h0)
end Go.Proofs.YtonddecdeeikgaaDoor
