/-
  The law ClocksGo, walked: where ages go on by one, and all is sure, from the first beginning of a slot on a slot runs at each tick, as the age tells it: true; nothing that was there has turned. Conditions: the config's reading; the table of directions is as the program's text lays it.
-/
import Derived.Test.YtonddecdeeikgaaDoorCl9
import Derived.Test.YtonddecdeeikgaaDoorAnd40
namespace Go.Proofs.YtonddecdeeikgaaDoor
open Go.RowKit Cl Rg
set_option linter.unusedVariables false

theorem ofT_age' {s L a : Int} (h : 0 ≤ a) (h' : a ≤ 1099511627776) : ofT s L a = timeM s L a ∧ ofE a = 0 := by
  have hi : Cl.isAge a = true := by simp [Cl.isAge, h, h']
  simp [ofT, ofE, hi]
theorem time_p (s L a : Int) : (timeM s L a).p = a % L := Int.emod_emod_of_dvd a ⟨s, Int.mul_comm s L⟩
/-- Within a slot's length there is an age of place 0. -/
theorem place_zero {s L : Int} (a : Int) (hL : 1 ≤ L) : ∃ j : Nat, (j : Int) < L ∧ (timeM s L (a + j)).p = 0 := by
  have h1 := Int.emod_nonneg (-a) (show L ≠ 0 by omega)
  have h2 := Int.emod_lt_of_pos (-a) (show 0 < L by omega)
  refine ⟨((-a) % L).toNat, by omega, ?_⟩
  rw [time_p, Int.toNat_of_nonneg h1, Int.add_emod, Int.emod_emod_of_dvd _ (Int.dvd_refl L), ← Int.add_emod, Int.add_right_neg, Int.zero_emod]
theorem begO_time {s L a : Int} (h : 0 ≤ a) (h' : a ≤ 1099511627776) : begO s L a true = if (timeM s L a).p = 0 then some (timeM s L a) else none := by
  have hi : Cl.isAge a = true := by simp [Cl.isAge, h, h']
  simp [begO, begB, hi]
/-- A clock that runs the last age's slot goes on to this one's. -/
theorem tick_next {s L a : Int} (hs : Sc s L) (h : 0 ≤ a) (h' : a + 1 ≤ 1099511627776) : tickO s L (some (timeM s L a)) (a + 1) true = some (timeM s L (a + 1)) := by
  have hn := time_next hs.s1 hs.l1 h
  simp only [tickO]
  by_cases hp : (timeM s L a).p + 1 < L
  · rw [if_pos hp] at hn
    rw [if_pos hp, hn]
  · rw [if_neg hp, begO_time (by omega) h']
    have hz : (timeM s L (a + 1)).p = 0 := by
      rw [if_neg hp] at hn
      rw [hn]
      split <;> rfl
    rw [if_pos hz]
theorem clocksGo_none (c : Cf) (age : Int) (w : World) (hw : Ways w) (HN : ∀ u, Below w.heap.size w u → Calls Tryd.prog 8 #[.agg #[.int .i64 c.N, .slice c.pA c.pn c.pc, .slice c.sA c.sn c.sc, .int .i64 c.L, .slice c.bA c.bn c.bc, .slice c.tA c.tn c.tc, .int .i64 c.M, .int .i64 c.G, .int .i64 c.F]] u fun e w' => e = .returned (.pointer none) ∧ Below u.heap.size u w') :
    Calls Tryd.prog 7 #[.agg #[.int .i64 c.N, .slice c.pA c.pn c.pc, .slice c.sA c.sn c.sc, .int .i64 c.L, .slice c.bA c.bn c.bc, .slice c.tA c.tn c.tc, .int .i64 c.M, .int .i64 c.G, .int .i64 c.F], .int .i64 age] w fun e w' => e = .returned (.bool true) ∧ Below w.heap.size w w' := by
  have hB0 : Below w.heap.size w (w.alloc (.cells #[.int .i64 c.N, .slice c.pA c.pn c.pc, .slice c.sA c.sn c.sc, .int .i64 c.L, .slice c.bA c.bn c.bc, .slice c.tA c.tn c.tc, .int .i64 c.M, .int .i64 c.G, .int .i64 c.F] 25)) := below_al (Below.refl w.heap.size w) (.cells #[.int .i64 c.N, .slice c.pA c.pn c.pc, .slice c.sA c.sn c.sc, .int .i64 c.L, .slice c.bA c.bn c.bc, .slice c.tA c.tn c.tc, .int .i64 c.M, .int .i64 c.G, .int .i64 c.F] 25)
  have HM := Lib.hid HN
  clear HN
  go_enter Tryd.func7, Tryd.ntmps7
  go_wp2_with (first
    | (go_at_call 8; (with_reducible refine (HM.out _ hB0).mono ?_); rintro e w1 ⟨rfl, b1⟩; have hB1 := below_then hB0 b1)
    | (go_at_call 9; (with_reducible refine (lives_clk _ (hw.on hB1)).mono ?_); rintro e w2 ⟨rfl, b2⟩))
  go_ret
  exact ⟨rfl, below_then hB1 b2⟩
theorem clocksGo_long (c : Cf) (age : Int) (w : World) (hw : Ways w) (hc : CfIn w c) (hg : greatB c = false) (h0 : newE c = 0) (hl : 300 < c.L) :
    Calls Tryd.prog 7 #[.agg #[.int .i64 c.N, .slice c.pA c.pn c.pc, .slice c.sA c.sn c.sc, .int .i64 c.L, .slice c.bA c.bn c.bc, .slice c.tA c.tn c.tc, .int .i64 c.M, .int .i64 c.G, .int .i64 c.F], .int .i64 age] w fun e w' => e = .returned (.bool true) ∧ Below w.heap.size w w' := by
  have hB0 : Below w.heap.size w (w.alloc (.cells #[.int .i64 c.N, .slice c.pA c.pn c.pc, .slice c.sA c.sn c.sc, .int .i64 c.L, .slice c.bA c.bn c.bc, .slice c.tA c.tn c.tc, .int .i64 c.M, .int .i64 c.G, .int .i64 c.F] 25)) := below_al (Below.refl w.heap.size w) (.cells #[.int .i64 c.N, .slice c.pA c.pn c.pc, .slice c.sA c.sn c.sc, .int .i64 c.L, .slice c.bA c.bn c.bc, .slice c.tA c.tn c.tc, .int .i64 c.M, .int .i64 c.G, .int .i64 c.F] 25)
  have HW0 := Lib.hid (hw.on hB0)
  have HIN0 := Lib.hid (hc.on hB0)
  have HB0 := Lib.hid hB0
  have HC0 := Lib.hid (Blk.new w 25 #[.int .i64 c.N, .slice c.pA c.pn c.pc, .slice c.sA c.sn c.sc, .int .i64 c.L, .slice c.bA c.bn c.bc, .slice c.tA c.tn c.tc, .int .i64 c.M, .int .i64 c.G, .int .i64 c.F])
  have HG := Lib.hid hg
  have H0 := Lib.hid h0
  clear hw hc hg h0 hB0
  go_enter Tryd.func7, Tryd.ntmps7
  go_wp2_with (first
    | (go_at_call 8; (with_reducible refine (lawNet_yes c _ HW0.out HIN0.out HG.out H0.out).mono ?_); rintro e w1 ⟨gN, rfl, hN1, b1⟩; have hC1 := HC0.out.on b1; obtain ⟨k0, k1, k2, k3, k4, k5, k6, k7, k8⟩ := hC1.cf; have kl := hC1.lt; have hB1 := below_then HB0.out b1)
    | (go_at_call 9; (with_reducible refine (lives_clk _ (HW0.out.on b1)).mono ?_); rintro e u2 ⟨rfl, c2⟩))
  go_ret
  exact ⟨rfl, below_then hB1 c2⟩
set_option maxRecDepth 100000 in
set_option maxHeartbeats 4000000 in
theorem clocksGo_yes (c : Cf) (age : Int) (w : World) (hw : Ways w) (hc : CfIn w c) (hg : greatB c = false) (h0 : newE c = 0) (hl : c.L ≤ 300) :
    Calls Tryd.prog 7 #[.agg #[.int .i64 c.N, .slice c.pA c.pn c.pc, .slice c.sA c.sn c.sc, .int .i64 c.L, .slice c.bA c.bn c.bc, .slice c.tA c.tn c.tc, .int .i64 c.M, .int .i64 c.G, .int .i64 c.F], .int .i64 age] w fun e w' => e = .returned (.bool true) ∧ Below w.heap.size w w' := by
  have hB0 : Below w.heap.size w (w.alloc (.cells #[.int .i64 c.N, .slice c.pA c.pn c.pc, .slice c.sA c.sn c.sc, .int .i64 c.L, .slice c.bA c.bn c.bc, .slice c.tA c.tn c.tc, .int .i64 c.M, .int .i64 c.G, .int .i64 c.F] 25)) := below_al (Below.refl w.heap.size w) (.cells #[.int .i64 c.N, .slice c.pA c.pn c.pc, .slice c.sA c.sn c.sc, .int .i64 c.L, .slice c.bA c.bn c.bc, .slice c.tA c.tn c.tc, .int .i64 c.M, .int .i64 c.G, .int .i64 c.F] 25)
  have HW0 := Lib.hid (hw.on hB0)
  have HIN0 := Lib.hid (hc.on hB0)
  have HB0 := Lib.hid hB0
  have HC0 := Lib.hid (Blk.new w 25 #[.int .i64 c.N, .slice c.pA c.pn c.pc, .slice c.sA c.sn c.sc, .int .i64 c.L, .slice c.bA c.bn c.bc, .slice c.tA c.tn c.tc, .int .i64 c.M, .int .i64 c.G, .int .i64 c.F])
  have HG := Lib.hid hg
  have H0 := Lib.hid h0
  have HSC := Lib.hid (cf_sc h0)
  have HL := Lib.hid hl
  obtain ⟨a, ha⟩ : ∃ a, a = bits .and .i64 age 549755813887 := ⟨_, rfl⟩
  have hab := and39 age
  rw [← ha] at hab
  have ha' := ha.symm
  obtain ⟨ha0, ha1⟩ := hab
  clear ha hw hc hg h0 hB0
  go_enter Tryd.func7, Tryd.ntmps7
  go_wp2_with (first
    | (go_at_call 8; (with_reducible refine (lawNet_yes c _ HW0.out HIN0.out HG.out H0.out).mono ?_); rintro e w1 ⟨gN, rfl, hN1, b1⟩; have hC1 := HC0.out.on b1; obtain ⟨k0, k1, k2, k3, k4, k5, k6, k7, k8⟩ := hC1.cf; have kl := hC1.lt; have hB1 := below_then HB0.out b1)
    | (go_at_call 17; (with_reducible refine (nNew _ c.sn c.L w1 hN1).mono ?_); rintro e w2 ⟨g, rfl, hg2, hC2, b2⟩))
  have HN := Lib.hid hN1
  have HG2 := Lib.hid hg2
  have HW1 := Lib.hid (HW0.out.on b1)
  have HB1 := Lib.hid hB1
  have HB2 := Lib.hid b2
  have HC2 := Lib.hid hC2
  clear k0 k1 k2 k3 k4 k5 k6 k7 k8 kl b1 hC1 hB1 hN1 hg2 b2 hC2 HW0 HIN0 HC0 HB0 hl ha'
  go_loopw [7, 8] (fun v7 v8 wr => ∃ (i : Nat) (b : Bool) (o : Option Tm), i ≤ 800 ∧ v8 = .int .i64 i ∧ v7 = .bool b ∧ ((b = false ∧ o = none ∧ ∀ j : Nat, j < i → (timeM c.sn c.L (a + j)).p ≠ 0) ∨ (b = true ∧ 0 < i ∧ o = some (timeM c.sn c.L (a + (i - 1))))) ∧ OkO c.sn c.L o ∧ ClkO wr g c.sn c.L o ∧ Below w1.heap.size w1 wr) (fun _ v8 _ => 800 - (intOf v8).toNat)
  case atStart => exact ⟨0, false, none, by omega, rfl, rfl, .inl ⟨rfl, rfl, fun j hj => absurd hj (by omega)⟩, okO_none _ _, HC2.out, HB2.out⟩
  case round =>
    obtain ⟨i, b, o, hi, rfl, rfl, hrel, hok, hC, hb⟩ := hrel
    clear HC2 HB2
    by_cases hlt : i < 800
    · obtain ⟨A, hA⟩ : ∃ A, A = a + (i : Int) := ⟨_, rfl⟩
      have hwA : IntKind.i64.wrap (a + (i : Int)) = A := by rw [hA]; exact IntWalk.i64_in _ (by omega)
      have hA0 : 0 ≤ A := by omega
      have hA1 : A ≤ 1099511627776 := by omega
      have hs := HSC.out
      have hwi : IntKind.i64.wrap (i : Int) = (i : Int) := IntWalk.i64_in _ (by omega)
      obtain ⟨X, hX⟩ : ∃ X, X = timeM c.sn c.L A := ⟨_, rfl⟩
      have HX := Lib.hid (show ofT c.sn c.L A = X by rw [hX]; exact (ofT_age' hA0 hA1).1)
      have HE := Lib.hid (show ofE A = 0 from (ofT_age' (s := c.sn) (L := c.L) hA0 hA1).2)
      have hht := has_time (s := c.sn) (L := c.L) (a := A) hs.s1 hs.l1 hA0 hA1
      rw [← hX] at hht
      obtain ⟨y, hy⟩ : ∃ y, y = upM c.sn X := ⟨_, rfl⟩
      have HUP := Lib.hid (show upO c.sn (some X) = y from hy.symm)
      have HAH := Lib.hid (show ahA c.sn c.L X = y by simp only [ahA, hht, if_true, hy])
      have HIDX := Lib.hid (show some X = some (timeM c.sn c.L (a + (((i + 1 : Nat) : Int) - 1))) by rw [hX, hA]; congr 2; omega)
      have q1 := tm_neq X.r X.k X.p X.r X.k X.p
      simp only [beq_self_eq_true, Bool.and_self, Bool.not_true] at q1
      have hdl : decide ((i : Int) < 800) = true := decide_eq_true (by omega)
      rcases hrel with ⟨rfl, rfl, hall⟩ | ⟨rfl, hi0, rfl⟩
      · by_cases hp : X.p = 0
        · have HTK := Lib.hid (show tickO c.sn c.L none A true = some X by rw [tickO, begO_time hA0 hA1, ← hX, if_pos hp])
          have HOK := Lib.hid hok
          have HOK2 := Lib.hid (show OkO c.sn c.L (some X) by rw [← HTK.out]; exact tickO_ok hs hok)
          have hp0 : (X.p == 0) = true := beq_iff_eq.2 hp
          clear hok hall hX hA hht hy hs hp
          go_wp2_with (first
            | (go_at_call 18; (with_reducible refine (tick_is g c.sn c.L none A true X true (some X) HTK.out rfl rfl wr hC HSC.out HOK.out).mono ?_); rintro e u1 ⟨rfl, hC1, a1⟩; have d1 := below_al (hb.trans (a1.1.mono HG2.out)) (.cells #[.int .i64 X.r, .int .i64 X.k, .int .i64 X.p] 27); have hC1' := hC1.al (.cells #[.int .i64 X.r, .int .i64 X.k, .int .i64 X.p] 27); have hT1 := Blk.new u1 27 #[.int .i64 X.r, .int .i64 X.k, .int .i64 X.p])
            | (go_at_call 10; (with_reducible refine (nOf_is _ c.sn c.L A X HX.out 0 HE.out _ (HN.out.on d1)).mono ?_); rintro e u2 ⟨rfl, a2⟩; have a2' := below_al a2 (.cells #[.int .i64 X.r, .int .i64 X.k, .int .i64 X.p] 27); have d2 := below_then d1 a2'; have hC2 := hC1'.on a2'; have hT2 := hT1.on a2'; have hU2 := Blk.new u2 27 #[.int .i64 X.r, .int .i64 X.k, .int .i64 X.p]; have t0 := hT2.cell 0; have t1 := hT2.cell 1; have t2 := hT2.cell 2; have tl := hT2.lt; simp only [List.getElem?_toArray, List.getElem?_cons_zero, List.getElem?_cons_succ] at t0 t1 t2; have v0 := hU2.cell 0; have v1 := hU2.cell 1; have v2 := hU2.cell 2; have vl := hU2.lt; simp only [List.getElem?_toArray, List.getElem?_cons_zero, List.getElem?_cons_succ] at v0 v1 v2)
            | (go_at_call 19; (with_reducible refine (slot_is g c.sn c.L (some X) y true HUP.out rfl _ hC2 HSC.out HOK2.out).mono ?_); rintro e u3 ⟨rfl, a3⟩; have d3 := below_then d2 a3; have hC3 := hC2.on a3; clear t0 t1 t2 tl v0 v1 v2 vl; have v0 := (hU2.on a3).cell 0; have v1 := (hU2.on a3).cell 1; have v2 := (hU2.on a3).cell 2; have vl := (hU2.on a3).lt; simp only [List.getElem?_toArray, List.getElem?_cons_zero, List.getElem?_cons_succ] at v0 v1 v2)
            | (go_at_call 15; (with_reducible refine (nAhead_is _ c.sn c.L X y HAH.out _ (HN.out.on d3)).mono ?_); rintro e u4 ⟨rfl, a4⟩; have d4 := below_then d3 a4; have hC4 := hC3.on a4; clear v0 v1 v2 vl))
          go_roundw
          case rel => exact ⟨i + 1, true, some X, by omega, by go_num, rfl, .inr ⟨rfl, by omega, HIDX.out⟩, HOK2.out, hC4, d4⟩
          case measure => simp [intOf]; omega
        · have HTK := Lib.hid (show tickO c.sn c.L none A true = none by rw [tickO, begO_time hA0 hA1, ← hX, if_neg hp])
          have HOK := Lib.hid hok
          have HOK2 := Lib.hid (okO_none c.sn c.L)
          have hp0 : (X.p == 0) = false := beq_eq_false_iff_ne.2 hp
          have HALL := Lib.hid (show ∀ j : Nat, j < i + 1 → (timeM c.sn c.L (a + j)).p ≠ 0 from fun j hj => by
            rcases Nat.lt_succ_iff_lt_or_eq.1 hj with q | q
            · exact hall j q
            · subst q; rw [← hA, ← hX]; exact hp)
          clear hok hall hX hA hht hy hs hp
          go_wp2_with (first
            | (go_at_call 18; (with_reducible refine (tick_is g c.sn c.L none A true ⟨0, 0, 0⟩ false none HTK.out rfl rfl wr hC HSC.out HOK.out).mono ?_); rintro e u1 ⟨rfl, hC1, a1⟩; have d1 := below_al (hb.trans (a1.1.mono HG2.out)) (.cells #[.int .i64 0, .int .i64 0, .int .i64 0] 27); have hC1' := hC1.al (.cells #[.int .i64 0, .int .i64 0, .int .i64 0] 27); have hT1 := Blk.new u1 27 #[.int .i64 0, .int .i64 0, .int .i64 0])
            | (go_at_call 10; (with_reducible refine (nOf_is _ c.sn c.L A X HX.out 0 HE.out _ (HN.out.on d1)).mono ?_); rintro e u2 ⟨rfl, a2⟩; have a2' := below_al a2 (.cells #[.int .i64 X.r, .int .i64 X.k, .int .i64 X.p] 27); have d2 := below_then d1 a2'; have hC2 := hC1'.on a2'; have hT2 := hT1.on a2'; have hU2 := Blk.new u2 27 #[.int .i64 X.r, .int .i64 X.k, .int .i64 X.p]; have t0 := hT2.cell 0; have t1 := hT2.cell 1; have t2 := hT2.cell 2; have tl := hT2.lt; simp only [List.getElem?_toArray, List.getElem?_cons_zero, List.getElem?_cons_succ] at t0 t1 t2; have v0 := hU2.cell 0; have v1 := hU2.cell 1; have v2 := hU2.cell 2; have vl := hU2.lt; simp only [List.getElem?_toArray, List.getElem?_cons_zero, List.getElem?_cons_succ] at v0 v1 v2)
            | (go_at_call 19; (with_reducible refine (slot_is g c.sn c.L none 0 false rfl rfl _ hC2 HSC.out HOK2.out).mono ?_); rintro e u3 ⟨rfl, a3⟩; have d3 := below_then d2 a3; have hC3 := hC2.on a3; clear t0 t1 t2 tl v0 v1 v2 vl; have v0 := (hU2.on a3).cell 0; have v1 := (hU2.on a3).cell 1; have v2 := (hU2.on a3).cell 2; have vl := (hU2.on a3).lt; simp only [List.getElem?_toArray, List.getElem?_cons_zero, List.getElem?_cons_succ] at v0 v1 v2))
          go_roundw
          case rel => exact ⟨i + 1, false, none, by omega, by go_num, rfl, .inl ⟨rfl, rfl, HALL.out⟩, HOK2.out, hC3, d3⟩
          case measure => simp [intOf]; omega
      · have HTK := Lib.hid (show tickO c.sn c.L (some (timeM c.sn c.L (a + ((i : Int) - 1)))) A true = some X by
          have h := tick_next (s := c.sn) (L := c.L) (a := a + ((i : Int) - 1)) hs (by omega) (by omega)
          rw [show a + ((i : Int) - 1) + 1 = A by omega] at h
          rw [h, hX])
        have HOK := Lib.hid hok
        have HOK2 := Lib.hid (show OkO c.sn c.L (some X) by rw [← HTK.out]; exact tickO_ok hs hok)
        obtain ⟨V, hV⟩ : ∃ V, V = timeM c.sn c.L (a + ((i : Int) - 1)) := ⟨_, rfl⟩
        rw [← hV] at HTK HOK hC
        clear hok hX hA hht hy hs hV
        go_wp2_with (first
          | (go_at_call 18; (with_reducible refine (tick_is g c.sn c.L (some V) A true X true (some X) HTK.out rfl rfl wr hC HSC.out HOK.out).mono ?_); rintro e u1 ⟨rfl, hC1, a1⟩; have d1 := below_al (hb.trans (a1.1.mono HG2.out)) (.cells #[.int .i64 X.r, .int .i64 X.k, .int .i64 X.p] 27); have hC1' := hC1.al (.cells #[.int .i64 X.r, .int .i64 X.k, .int .i64 X.p] 27); have hT1 := Blk.new u1 27 #[.int .i64 X.r, .int .i64 X.k, .int .i64 X.p])
          | (go_at_call 10; (with_reducible refine (nOf_is _ c.sn c.L A X HX.out 0 HE.out _ (HN.out.on d1)).mono ?_); rintro e u2 ⟨rfl, a2⟩; have a2' := below_al a2 (.cells #[.int .i64 X.r, .int .i64 X.k, .int .i64 X.p] 27); have d2 := below_then d1 a2'; have hC2 := hC1'.on a2'; have hT2 := hT1.on a2'; have hU2 := Blk.new u2 27 #[.int .i64 X.r, .int .i64 X.k, .int .i64 X.p]; have t0 := hT2.cell 0; have t1 := hT2.cell 1; have t2 := hT2.cell 2; have tl := hT2.lt; simp only [List.getElem?_toArray, List.getElem?_cons_zero, List.getElem?_cons_succ] at t0 t1 t2; have v0 := hU2.cell 0; have v1 := hU2.cell 1; have v2 := hU2.cell 2; have vl := hU2.lt; simp only [List.getElem?_toArray, List.getElem?_cons_zero, List.getElem?_cons_succ] at v0 v1 v2)
          | (go_at_call 19; (with_reducible refine (slot_is g c.sn c.L (some X) y true HUP.out rfl _ hC2 HSC.out HOK2.out).mono ?_); rintro e u3 ⟨rfl, a3⟩; have d3 := below_then d2 a3; have hC3 := hC2.on a3; clear t0 t1 t2 tl v0 v1 v2 vl; have v0 := (hU2.on a3).cell 0; have v1 := (hU2.on a3).cell 1; have v2 := (hU2.on a3).cell 2; have vl := (hU2.on a3).lt; simp only [List.getElem?_toArray, List.getElem?_cons_zero, List.getElem?_cons_succ] at v0 v1 v2)
          | (go_at_call 15; (with_reducible refine (nAhead_is _ c.sn c.L X y HAH.out _ (HN.out.on d3)).mono ?_); rintro e u4 ⟨rfl, a4⟩; have d4 := below_then d3 a4; have hC4 := hC3.on a4; clear v0 v1 v2 vl))
        go_roundw
        case rel => exact ⟨i + 1, true, some X, by omega, by go_num, rfl, .inr ⟨rfl, by omega, HIDX.out⟩, HOK2.out, hC4, d4⟩
        case measure => simp [intOf]; omega
    · have h8 : i = 800 := by omega
      rcases hrel with ⟨rfl, rfl, hall⟩ | ⟨rfl, hi0, rfl⟩
      · exfalso
        obtain ⟨j, h1, h2⟩ := place_zero (s := c.sn) a HSC.out.l1
        exact hall j (by have := HL.out; omega) h2
      · subst h8
        clear hC hok hlt
        go_wp2_with (go_at_call 9; (with_reducible refine (lives_clk _ (HW1.out.on hb)).mono ?_); rintro e u2 ⟨rfl, c2⟩)
        go_ret
        exact ⟨rfl, below_then (below_then HB1.out hb) c2⟩
theorem clocksGo_walk (c : Cf) (age : Int) (W : World) (hw : Ways W) (hc : CfRaw W c) :
    Calls Tryd.prog 7 #[.agg #[.int .i64 c.N, .slice c.pA c.pn c.pc, .slice c.sA c.sn c.sc, .int .i64 c.L, .slice c.bA c.bn c.bc, .slice c.tA c.tn c.tc, .int .i64 c.M, .int .i64 c.G, .int .i64 c.F], .int .i64 age] W fun e w' => e = .returned (.bool true) ∧ Below W.heap.size W w' := by
  by_cases hg : greatB c = true
  · exact clocksGo_none c age W hw (fun u _ => lawNet_great c u hg)
  · have hg' : greatB c = false := by simpa using hg
    obtain ⟨hin, -⟩ := hc.small hg'
    by_cases h0 : newE c = 0
    · by_cases hl : c.L ≤ 300
      · exact clocksGo_yes c age W hw hin hg' h0 hl
      · exact clocksGo_long c age W hw hin hg' h0 (by omega)
    · exact clocksGo_none c age W hw (fun u hb => lawNet_bad c u (hin.on hb) hg' h0)
end Go.Proofs.YtonddecdeeikgaaDoor
