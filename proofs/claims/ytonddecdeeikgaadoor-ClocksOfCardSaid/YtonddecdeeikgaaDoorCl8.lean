/-
  The contracts of the reference's Of, Age and Ahead: the mathematics' times and ages; and of the law's Same. Conditions: the config's reading; its slots and their length are within their bounds.
-/
import Derived.Test.YtonddecdeeikgaaDoorCl7
import Derived.Test.YtonddecdeeikgaaDoorCfRef3
import Derived.Deep.QuietTactic
namespace Go.Proofs.YtonddecdeeikgaaDoor
open Go.RowKit Cl Rg
set_option linter.unusedVariables false

theorem refRound_is (c : Cf) (r : Int) (hr : (c.sn : Int) * c.L = r) (w : World) (hc : CfIn w c) (hL : 0 ≤ c.L) (hL2 : c.L ≤ 4096) :
    Calls Tryd.prog 27 #[.agg #[.int .i64 c.N, .slice c.pA c.pn c.pc, .slice c.sA c.sn c.sc, .int .i64 c.L, .slice c.bA c.bn c.bc, .slice c.tA c.tn c.tc, .int .i64 c.M, .int .i64 c.G, .int .i64 c.F]] w fun e w' => e = .returned (.int .i64 r) ∧ Below w.heap.size w w' := by
  have hs := hc.few.2.1
  have hm : 0 ≤ r ∧ r ≤ 268435456 := by
    rw [← hr]
    refine ⟨Int.mul_nonneg (by omega) hL, ?_⟩
    have h : (c.sn : Int) * c.L ≤ 65536 * c.L := Int.mul_le_mul_of_nonneg_right (by omega) hL
    omega
  have hwr : IntKind.i64.wrap r = r := IntWalk.i64_in _ (by omega)
  clear hm
  go_enter Tryd.func27, Tryd.ntmps27
  go_wp2_with fail
  go_ret
  exact ⟨rfl, below_al (Below.refl _ _) _⟩
theorem refOf_far (c : Cf) (a : Int) (w : World) (ha : Cl.isAge a = false) :
    Calls Tryd.prog 11 #[.agg #[.int .i64 c.N, .slice c.pA c.pn c.pc, .slice c.sA c.sn c.sc, .int .i64 c.L, .slice c.bA c.bn c.bc, .slice c.tA c.tn c.tc, .int .i64 c.M, .int .i64 c.G, .int .i64 c.F], .int .i64 a] w fun e w' => e = .returned (.tuple #[.agg #[.int .i64 0, .int .i64 0, .int .i64 0], .int .i64 1]) ∧ Below w.heap.size w w' := by
  have HB := Lib.hid (below_al (below_al (Below.refl w.heap.size w) (.cells #[.int .i64 c.N, .slice c.pA c.pn c.pc, .slice c.sA c.sn c.sc, .int .i64 c.L, .slice c.bA c.bn c.bc, .slice c.tA c.tn c.tc, .int .i64 c.M, .int .i64 c.G, .int .i64 c.F] 25)) (.cells #[.int .i64 0, .int .i64 0, .int .i64 0] 31))
  simp only [Cl.isAge, decide_eq_false_iff_not] at ha
  by_cases h1 : a < 0
  · clear ha
    go_enter Tryd.func11, Tryd.ntmps11
    go_wp2_with fail
    exact bodyPost_ret (v := .tuple #[.agg #[.int .i64 0, .int .i64 0, .int .i64 0], .int .i64 1]) (by simp [results, Tryd.results11, go_sem]) rfl ⟨rfl, HB.out⟩
  · have h2 : 1099511627776 < a := by omega
    clear ha
    go_enter Tryd.func11, Tryd.ntmps11
    go_wp2_with fail
    exact bodyPost_ret (v := .tuple #[.agg #[.int .i64 0, .int .i64 0, .int .i64 0], .int .i64 1]) (by simp [results, Tryd.results11, go_sem]) rfl ⟨rfl, HB.out⟩

set_option maxRecDepth 100000 in
set_option maxHeartbeats 4000000 in
theorem refOf_near (c : Cf) (a : Int) (X : Tm) (hX : timeM c.sn c.L a = X) (w : World) (hc : CfIn w c) (hs : Sc c.sn c.L) (ha : 0 ≤ a) (ha' : a ≤ 1099511627776) :
    Calls Tryd.prog 11 #[.agg #[.int .i64 c.N, .slice c.pA c.pn c.pc, .slice c.sA c.sn c.sc, .int .i64 c.L, .slice c.bA c.bn c.bc, .slice c.tA c.tn c.tc, .int .i64 c.M, .int .i64 c.G, .int .i64 c.F], .int .i64 a] w fun e w' => e = .returned (.tuple #[.agg #[.int .i64 X.r, .int .i64 X.k, .int .i64 X.p], .int .i64 0]) ∧ Below w.heap.size w w' := by
  obtain ⟨R, hR⟩ : ∃ R, R = (c.sn : Int) * c.L := ⟨_, rfl⟩
  have HR := Lib.hid hR.symm
  have hRb := hs.round
  have hbd := time_bd hs.s1 hs.l1 ha
  have hag := time_age (s := c.sn) (L := c.L) (a := a)
  rw [hX] at hbd hag
  rw [age_form, ← hR] at hag
  rw [← hR] at hRb
  have e1 : a / R = X.r := by rw [← hX, hR]; rfl
  have d1 : a.tdiv R = X.r := by rw [← e1]; exact Int.tdiv_eq_ediv_of_nonneg ha
  obtain ⟨rR, hrR⟩ : ∃ rR, rR = X.r * R := ⟨_, rfl⟩
  obtain ⟨l, hl⟩ : ∃ l, l = a - rR := ⟨_, rfl⟩
  have hkl : 0 ≤ X.k * c.L := Int.mul_nonneg hbd.2.2.1 (by have := hs.l1; omega)
  have hr0 : 0 ≤ X.r * R := Int.mul_nonneg hbd.1 (by omega)
  have hl2 : l = X.k * c.L + X.p := by rw [hl, hrR]; omega
  have w1 : IntKind.i64.wrap X.r = X.r := IntWalk.i64_in _ (by omega)
  have w2 : IntKind.i64.wrap (X.r * R) = rR := by rw [hrR]; exact IntWalk.i64_in _ (by omega)
  have w3 : IntKind.i64.wrap (a - rR) = l := by rw [hl]; exact IntWalk.i64_in _ (by omega)
  have w4 : IntKind.i64.wrap l = l := IntWalk.i64_in _ (by omega)
  have n1 : R ≠ 0 := by omega
  have n2 : (R == 0) = false := beq_eq_false_iff_ne.2 n1
  have HL0 := Lib.hid (show 0 ≤ c.L by have := hs.l1; omega)
  have HL1 := Lib.hid hs.l2
  have HLA := Lib.hid hs.l1
  have HLL := Lib.hid hl2
  have HBD := Lib.hid hbd
  have HS2 := Lib.hid hs.s2
  have hC0 := (Blk.new w 25 #[.int .i64 c.N, .slice c.pA c.pn c.pc, .slice c.sA c.sn c.sc, .int .i64 c.L, .slice c.bA c.bn c.bc, .slice c.tA c.tn c.tc, .int .i64 c.M, .int .i64 c.G, .int .i64 c.F]).alloc (.cells #[.int .i64 0, .int .i64 0, .int .i64 0] 31)
  have hZ0 : Blk ((w.alloc (.cells #[.int .i64 c.N, .slice c.pA c.pn c.pc, .slice c.sA c.sn c.sc, .int .i64 c.L, .slice c.bA c.bn c.bc, .slice c.tA c.tn c.tc, .int .i64 c.M, .int .i64 c.G, .int .i64 c.F] 25)).alloc (.cells #[.int .i64 0, .int .i64 0, .int .i64 0] 31)) (w.heap.size + 1) 31 #[.int .i64 0, .int .i64 0, .int .i64 0] := by
    have h := Blk.new (w.alloc (.cells #[.int .i64 c.N, .slice c.pA c.pn c.pc, .slice c.sA c.sn c.sc, .int .i64 c.L, .slice c.bA c.bn c.bc, .slice c.tA c.tn c.tc, .int .i64 c.M, .int .i64 c.G, .int .i64 c.F] 25)) 31 #[.int .i64 0, .int .i64 0, .int .i64 0]
    rwa [alloc_size] at h
  have hB0 := below_al (below_al (Below.refl w.heap.size w) (.cells #[.int .i64 c.N, .slice c.pA c.pn c.pc, .slice c.sA c.sn c.sc, .int .i64 c.L, .slice c.bA c.bn c.bc, .slice c.tA c.tn c.tc, .int .i64 c.M, .int .i64 c.G, .int .i64 c.F] 25)) (.cells #[.int .i64 0, .int .i64 0, .int .i64 0] 31)
  have hIN0 := hc.on hB0
  have HC0 := Lib.hid hC0
  have HZ0 := Lib.hid hZ0
  have HB0 := Lib.hid hB0
  have HIN0 := Lib.hid hIN0
  clear hX hR hs hRb hbd hag e1 hrR hl hkl hr0 hl2 hc hC0 hZ0 hB0 hIN0
  go_enter Tryd.func11, Tryd.ntmps11
  go_wp2_with (go_at_call 27; (with_reducible refine (refRound_is c R HR.out _ HIN0.out HL0.out HL1.out).mono ?_); rintro e w1 ⟨rfl, b1⟩)
  have HT := Lib.hid (Blk.new w1 31 #[.int .i64 X.r, .int .i64 0, .int .i64 0])
  have HC := Lib.hid ((HC0.out.on b1).alloc (.cells #[.int .i64 X.r, .int .i64 0, .int .i64 0] 31))
  have HZ := Lib.hid ((HZ0.out.on b1).alloc (.cells #[.int .i64 X.r, .int .i64 0, .int .i64 0] 31))
  have HIN := Lib.hid ((HIN0.out.on b1).al (.cells #[.int .i64 X.r, .int .i64 0, .int .i64 0] 31))
  have HB := Lib.hid (below_al (below_then HB0.out b1) (.cells #[.int .i64 X.r, .int .i64 0, .int .i64 0] 31))
  have HG6 := Lib.hid (show w.heap.size + 1 < w1.heap.size by have := b1.size; simp at this; omega)
  obtain ⟨g6, hg6⟩ : ∃ g6, g6 = w1.heap.size := ⟨_, rfl⟩
  rw [← hg6] at HT HG6
  simp only [← hg6]
  clear b1 hg6 HC0 HZ0 HB0 HIN0
  refine Reg.wp_slots (fun t => t == 7 || (decide (20 ≤ t) && decide (t ≤ 26))) (by kernel_rfl) (by kernel_rfl) (by kernel_rfl) (fun zz => (Reg.tbl [
    (20, .is (.int .i64 a)),
    (21, .is (.pointer (some ⟨g6, 0, none⟩))),
    (22, .is (.int .i64 X.r)),
    (23, .is (.agg #[.int .i64 c.N, .slice c.pA c.pn c.pc, .slice c.sA c.sn c.sc, .int .i64 c.L, .slice c.bA c.bn c.bc, .slice c.tA c.tn c.tc, .int .i64 c.M, .int .i64 c.G, .int .i64 c.F])),
    (24, .is (.int .i64 R)),
    (25, .is (.int .i64 rR)),
    (26, .is (.int .i64 l)),
    (7, .is (.int .i64 l))] zz).P) (fun zz => (Reg.tbl _ zz).on) ?_ ?_
  · simp only [Reg.frame, Reg.over, Nat.reduceAdd, Nat.reduceBEq, Nat.reduceLeDiff, decide_true, decide_false, Bool.or_true, Bool.or_false, if_true, Bool.false_eq_true, if_false, Bool.and_true, Bool.and_false]
    refine ⟨?_, ?_, ?_, ?_, ?_, ?_, ?_, ?_, trivial⟩
    · intro x u hbu hd
      refine wpOp_step rfl fun K hK => ?_
      go_simp
      exact hK _ _ ⟨_, rfl, Below.refl _ _, fun d hd => by cases hd; exact rfl⟩
    · intro x u hbu hd
      have t0 := (HT.out.on hbu).cell 0
      have t1 := (HT.out.on hbu).cell 1
      have t2 := (HT.out.on hbu).cell 2
      have tl := (HT.out.on hbu).lt
      simp only [List.getElem?_toArray, List.getElem?_cons_zero, List.getElem?_cons_succ] at t0 t1 t2
      refine wpOp_step rfl fun K hK => ?_
      go_simp
      exact hK _ _ ⟨_, rfl, Below.refl _ _, fun d hd => by cases hd; exact rfl⟩
    · intro x u hbu hd
      have h21 : x 21 = .pointer (some ⟨g6, 0, none⟩) := hd 1 (by decide)
      have t0 := (HT.out.on hbu).cell 0
      have t1 := (HT.out.on hbu).cell 1
      have t2 := (HT.out.on hbu).cell 2
      have tl := (HT.out.on hbu).lt
      simp only [List.getElem?_toArray, List.getElem?_cons_zero, List.getElem?_cons_succ] at t0 t1 t2
      refine wpOp_step rfl fun K hK => ?_
      simp only [h21] at hK ⊢
      go_simp
      exact hK _ _ ⟨_, rfl, Below.refl _ _, fun d hd => by cases hd; exact rfl⟩
    · intro x u hbu hd
      obtain ⟨k0, k1, k2, k3, k4, k5, k6, k7, k8⟩ := (HC.out.on hbu).cf
      have kl := (HC.out.on hbu).lt
      refine wpOp_step rfl fun K hK => ?_
      go_simp
      exact hK _ _ ⟨_, rfl, Below.refl _ _, fun d hd => by cases hd; exact rfl⟩
    · intro x u hbu hd
      have h23 : x 23 = .agg #[.int .i64 c.N, .slice c.pA c.pn c.pc, .slice c.sA c.sn c.sc, .int .i64 c.L, .slice c.bA c.bn c.bc, .slice c.tA c.tn c.tc, .int .i64 c.M, .int .i64 c.G, .int .i64 c.F] := hd 3 (by decide)
      refine wpOp_step rfl fun K hK => ?_
      simp only [h23] at hK ⊢
      go_simp
      with_reducible refine (refRound_is c R HR.out _ (HIN.out.on hbu) HL0.out HL1.out).mono ?_
      rintro e u' ⟨rfl, hb'⟩
      exact hK _ _ ⟨_, rfl, hb', fun d hd => by cases hd; exact rfl⟩
    · intro x u hbu hd
      have h22 : x 22 = .int .i64 X.r := hd 2 (by decide)
      have h24 : x 24 = .int .i64 R := hd 4 (by decide)
      refine wpOp_step rfl fun K hK => ?_
      simp only [h22, h24] at hK ⊢
      go_simp
      exact hK _ _ ⟨_, rfl, Below.refl _ _, fun d hd => by cases hd; exact rfl⟩
    · intro x u hbu hd
      have h20 : x 20 = .int .i64 a := hd 0 (by decide)
      have h25 : x 25 = .int .i64 rR := hd 5 (by decide)
      refine wpOp_step rfl fun K hK => ?_
      simp only [h20, h25] at hK ⊢
      go_simp
      exact hK _ _ ⟨_, rfl, Below.refl _ _, fun d hd => by cases hd; exact rfl⟩
    · intro x u hbu hd
      have h26 : x 26 = .int .i64 l := hd 6 (by decide)
      refine wpOp_step rfl fun K hK => ?_
      simp only [h26] at hK ⊢
      go_simp
      exact hK _ _ ⟨_, rfl, Below.refl _ _, fun d hd => by cases hd; exact rfl⟩
  · intro x u hbu hall
    have h7 : x 7 = .int .i64 l := hall 7 (by decide)
    simp only [Reg.frame, Reg.over, Nat.reduceAdd, Nat.reduceBEq, Nat.reduceLeDiff, decide_true, decide_false, Bool.or_true, Bool.or_false, if_true, Bool.false_eq_true, if_false, Bool.and_true, Bool.and_false, h7]
    have HC1 := Lib.hid (HC.out.on hbu)
    have HZ1 := Lib.hid (HZ.out.on hbu)
    have HT1 := Lib.hid (HT.out.on hbu)
    have HB1 := Lib.hid (below_then HB.out hbu)
    clear w1 w2 w3 d1 n1 n2 HC HZ HT HB HIN hbu hall h7 HR
    go_wp2_with fail
    go_loopw [7] (fun s wr => ∃ k : Nat, (k : Int) ≤ X.k ∧ s = .int .i64 ((X.k - k) * c.L + X.p) ∧ Blk wr w.heap.size 25 #[.int .i64 c.N, .slice c.pA c.pn c.pc, .slice c.sA c.sn c.sc, .int .i64 c.L, .slice c.bA c.bn c.bc, .slice c.tA c.tn c.tc, .int .i64 c.M, .int .i64 c.G, .int .i64 c.F] ∧ Blk wr (w.heap.size + 1) 31 #[.int .i64 0, .int .i64 0, .int .i64 0] ∧ Blk wr g6 31 #[.int .i64 X.r, .int .i64 k, .int .i64 0] ∧ Below w.heap.size w wr) (fun s _ => (intOf s).toNat)
    case atStart => exact ⟨0, by have := HBD.out; omega, by rw [HLL.out]; simp, HC1.out, HZ1.out, HT1.out, HB1.out⟩
    case round =>
      obtain ⟨k, hk, rfl, hC, hZ, hT, hb⟩ := hrel
      clear HC1 HZ1 HT1 HB1 w4
      obtain ⟨-, -, x1, x2, x3, x4⟩ := HBD.out
      have y1 := HLA.out
      have y2 := HL1.out
      have y3 := HS2.out
      obtain ⟨k0, k1, k2, k3, k4, k5, k6, k7, k8⟩ := hC.cf
      have kl := hC.lt
      have t0 := hT.cell 0
      have t1 := hT.cell 1
      have t2 := hT.cell 2
      have tl := hT.lt
      simp only [List.getElem?_toArray, List.getElem?_cons_zero, List.getElem?_cons_succ] at t0 t1 t2
      have f0 := hT.frozen 0
      have f1 := hT.frozen 1
      have f2 := hT.frozen 2
      have hnn : 0 ≤ (X.k - k) * c.L := Int.mul_nonneg (by omega) (by omega)
      have hmx : (X.k - k) * c.L ≤ 65536 * 4096 := Int.le_trans (Int.mul_le_mul_of_nonneg_right (show X.k - k ≤ 65536 by omega) (by omega)) (Int.mul_le_mul_of_nonneg_left y2 (by omega))
      by_cases hlt : (k : Int) < X.k
      · have hge : c.L ≤ (X.k - k) * c.L := by
          have := Int.mul_le_mul_of_nonneg_right (show 1 ≤ X.k - k by omega) (show 0 ≤ c.L by omega)
          omega
        have hsub : (X.k - k) * c.L + X.p - c.L = (X.k - ((k + 1 : Nat) : Int)) * c.L + X.p := by
          rw [show (X.k - ((k + 1 : Nat) : Int)) = (X.k - k) - 1 by omega, Int.sub_mul (X.k - k) 1 c.L]; omega
        have HSUB := Lib.hid hsub
        obtain ⟨m, hm⟩ : ∃ m, m = (X.k - (k : Int)) * c.L := ⟨_, rfl⟩
        rw [← hm] at hnn hmx hge hsub HSUB ⊢
        have HM := Lib.hid hm
        have hdl : decide (c.L ≤ m + X.p) = true := decide_eq_true (by omega)
        have hw1 : IntKind.i64.wrap (m + X.p - c.L) = m + X.p - c.L := IntWalk.i64_in _ (by omega)
        have hw2 : IntKind.i64.wrap ((k : Int) + 1) = (k : Int) + 1 := IntWalk.i64_in _ (by omega)
        have hle : c.L ≤ m + X.p := by omega
        clear hm hsub
        go_wp2_with fail
        go_roundw
        case rel => exact ⟨k + 1, by omega, by rw [← HSUB.out], hC.far (p := ⟨g6, 1, none⟩) (by have := HG6.out; simp only; omega) _, hZ.far (p := ⟨g6, 1, none⟩) (by have := HG6.out; simp only; omega) _, hT.set_ 1 _, hb.setCell (p := ⟨g6, 1, none⟩) (by have := HG6.out; simp only; omega) _⟩
        case measure => simp [intOf]; omega
      · have hkk : (k : Int) = X.k := by omega
        have hll : (X.k - (k : Int)) * c.L + X.p = X.p := by rw [hkk]; simp
        rw [hll]
        rw [hkk] at hT t1
        have hne : w.heap.size + 1 ≠ g6 := by have := HG6.out; omega
        have hne2 : g6 ≠ w.heap.size + 1 := by have := HG6.out; omega
        have z0 := hZ.cell 0
        have z1 := hZ.cell 1
        have z2 := hZ.cell 2
        have zl := hZ.lt
        simp only [List.getElem?_toArray, List.getElem?_cons_zero, List.getElem?_cons_succ] at z0 z1 z2
        have e0 := hZ.frozen 0
        have e1 := hZ.frozen 1
        have e2 := hZ.frozen 2
        have HF := Lib.hid (blk_three (hZ.far (p := ⟨g6, 2, none⟩) hne (.int .i64 X.p)) (.int .i64 X.r) (.int .i64 X.k) (.int .i64 X.p))
        have HBF := Lib.hid (below_three (hb.setCell (p := ⟨g6, 2, none⟩) (by have := HG6.out; simp only; omega) (.int .i64 X.p)) (show w.heap.size ≤ w.heap.size + 1 by omega) (.int .i64 X.r) (.int .i64 X.k) (.int .i64 X.p))
        have hdl : decide (c.L ≤ X.p) = false := decide_eq_false (by omega)
        clear hkk hll hlt hnn hmx hk hC hZ hT hb
        go_wp2_with fail
        obtain ⟨x0, x1, x2⟩ := HF.out
        exact bodyPost_ret (v := .tuple #[.agg #[.int .i64 X.r, .int .i64 X.k, .int .i64 X.p], .int .i64 0]) (by simp [results, Tryd.results11, go_sem, x0, x1, x2]) rfl ⟨rfl, HBF.out⟩
theorem refOf_is (c : Cf) (a : Int) (X : Tm) (hX : ofT c.sn c.L a = X) (E : Int) (hE : ofE a = E) (w : World) (hc : CfIn w c) (hs : Sc c.sn c.L) :
    Calls Tryd.prog 11 #[.agg #[.int .i64 c.N, .slice c.pA c.pn c.pc, .slice c.sA c.sn c.sc, .int .i64 c.L, .slice c.bA c.bn c.bc, .slice c.tA c.tn c.tc, .int .i64 c.M, .int .i64 c.G, .int .i64 c.F], .int .i64 a] w fun e w' => e = .returned (.tuple #[.agg #[.int .i64 X.r, .int .i64 X.k, .int .i64 X.p], .int .i64 E]) ∧ Below w.heap.size w w' := by
  by_cases ha : Cl.isAge a = true
  · have ha2 := ha
    simp only [Cl.isAge, decide_eq_true_eq] at ha2
    simp only [ofT, ofE, ha, if_true] at hX hE
    subst hE
    exact refOf_near c a X hX w hc hs ha2.1 ha2.2
  · have ha' : Cl.isAge a = false := by simpa using ha
    simp only [ofT, ofE, ha', Bool.false_eq_true, if_false] at hX hE
    subst hE hX
    exact refOf_far c a w ha'
theorem refAge_out (c : Cf) (t : Tm) (w : World) (h : ¬ ((0 ≤ t.r ∧ t.r ≤ 1099511627776) ∧ (0 ≤ t.k ∧ t.k < (c.sn : Int)) ∧ 0 ≤ t.p ∧ t.p < c.L)) :
    Calls Tryd.prog 13 #[.agg #[.int .i64 c.N, .slice c.pA c.pn c.pc, .slice c.sA c.sn c.sc, .int .i64 c.L, .slice c.bA c.bn c.bc, .slice c.tA c.tn c.tc, .int .i64 c.M, .int .i64 c.G, .int .i64 c.F], .agg #[.int .i64 t.r, .int .i64 t.k, .int .i64 t.p]] w fun e w' => e = .returned (.tuple #[.int .i64 0, .int .i64 1]) ∧ Below w.heap.size w w' := by
  have hC0 := (Blk.new w 25 #[.int .i64 c.N, .slice c.pA c.pn c.pc, .slice c.sA c.sn c.sc, .int .i64 c.L, .slice c.bA c.bn c.bc, .slice c.tA c.tn c.tc, .int .i64 c.M, .int .i64 c.G, .int .i64 c.F]).alloc (.cells #[.int .i64 t.r, .int .i64 t.k, .int .i64 t.p] 31)
  have hT0 : Blk ((w.alloc (.cells #[.int .i64 c.N, .slice c.pA c.pn c.pc, .slice c.sA c.sn c.sc, .int .i64 c.L, .slice c.bA c.bn c.bc, .slice c.tA c.tn c.tc, .int .i64 c.M, .int .i64 c.G, .int .i64 c.F] 25)).alloc (.cells #[.int .i64 t.r, .int .i64 t.k, .int .i64 t.p] 31)) (w.heap.size + 1) 31 #[.int .i64 t.r, .int .i64 t.k, .int .i64 t.p] := by
    have h := Blk.new (w.alloc (.cells #[.int .i64 c.N, .slice c.pA c.pn c.pc, .slice c.sA c.sn c.sc, .int .i64 c.L, .slice c.bA c.bn c.bc, .slice c.tA c.tn c.tc, .int .i64 c.M, .int .i64 c.G, .int .i64 c.F] 25)) 31 #[.int .i64 t.r, .int .i64 t.k, .int .i64 t.p]
    rwa [alloc_size] at h
  have HB := Lib.hid (below_al (below_al (Below.refl w.heap.size w) (.cells #[.int .i64 c.N, .slice c.pA c.pn c.pc, .slice c.sA c.sn c.sc, .int .i64 c.L, .slice c.bA c.bn c.bc, .slice c.tA c.tn c.tc, .int .i64 c.M, .int .i64 c.G, .int .i64 c.F] 25)) (.cells #[.int .i64 t.r, .int .i64 t.k, .int .i64 t.p] 31))
  clear hC0 hT0
  by_cases h1 : t.r < 0
  · clear h
    go_enter Tryd.func13, Tryd.ntmps13
    go_wp2_with fail
    go_ret2
    exact ⟨rfl, HB.out⟩
  · skip
    by_cases h2 : 1099511627776 < t.r
    · clear h
      go_enter Tryd.func13, Tryd.ntmps13
      go_wp2_with fail
      go_ret2
      exact ⟨rfl, HB.out⟩
    · skip
      by_cases h3 : t.k < 0
      · clear h
        go_enter Tryd.func13, Tryd.ntmps13
        go_wp2_with fail
        go_ret2
        exact ⟨rfl, HB.out⟩
      · skip
        by_cases h4 : (c.sn : Int) ≤ t.k
        · clear h
          go_enter Tryd.func13, Tryd.ntmps13
          go_wp2_with fail
          go_ret2
          exact ⟨rfl, HB.out⟩
        · skip
          by_cases h5 : t.p < 0
          · clear h
            go_enter Tryd.func13, Tryd.ntmps13
            go_wp2_with fail
            go_ret2
            exact ⟨rfl, HB.out⟩
          · skip
            have h6 : c.L ≤ t.p := by omega
            clear h
            go_enter Tryd.func13, Tryd.ntmps13
            go_wp2_with fail
            go_ret2
            exact ⟨rfl, HB.out⟩
set_option maxRecDepth 100000 in
set_option maxHeartbeats 4000000 in
theorem refAge_in (c : Cf) (t : Tm) (a : Int) (ha : ageM c.sn c.L t = a) (w : World) (hc : CfIn w c) (hs : Sc c.sn c.L) (hs16 : (c.sn : Int) ≤ 16) (h1 : 0 ≤ t.r) (h2 : t.r ≤ 1099511627776) (h3 : 0 ≤ t.k) (h4 : t.k < (c.sn : Int)) (h5 : 0 ≤ t.p) (h6 : t.p < c.L) :
    Calls Tryd.prog 13 #[.agg #[.int .i64 c.N, .slice c.pA c.pn c.pc, .slice c.sA c.sn c.sc, .int .i64 c.L, .slice c.bA c.bn c.bc, .slice c.tA c.tn c.tc, .int .i64 c.M, .int .i64 c.G, .int .i64 c.F], .agg #[.int .i64 t.r, .int .i64 t.k, .int .i64 t.p]] w fun e w' => e = .returned (.tuple #[.int .i64 (if a ≤ 1099511627776 then a else 0), .int .i64 (if a ≤ 1099511627776 then 0 else 1)]) ∧ Below w.heap.size w w' := by
  have hC0 := (Blk.new w 25 #[.int .i64 c.N, .slice c.pA c.pn c.pc, .slice c.sA c.sn c.sc, .int .i64 c.L, .slice c.bA c.bn c.bc, .slice c.tA c.tn c.tc, .int .i64 c.M, .int .i64 c.G, .int .i64 c.F]).alloc (.cells #[.int .i64 t.r, .int .i64 t.k, .int .i64 t.p] 31)
  have hT0 : Blk ((w.alloc (.cells #[.int .i64 c.N, .slice c.pA c.pn c.pc, .slice c.sA c.sn c.sc, .int .i64 c.L, .slice c.bA c.bn c.bc, .slice c.tA c.tn c.tc, .int .i64 c.M, .int .i64 c.G, .int .i64 c.F] 25)).alloc (.cells #[.int .i64 t.r, .int .i64 t.k, .int .i64 t.p] 31)) (w.heap.size + 1) 31 #[.int .i64 t.r, .int .i64 t.k, .int .i64 t.p] := by
    have h := Blk.new (w.alloc (.cells #[.int .i64 c.N, .slice c.pA c.pn c.pc, .slice c.sA c.sn c.sc, .int .i64 c.L, .slice c.bA c.bn c.bc, .slice c.tA c.tn c.tc, .int .i64 c.M, .int .i64 c.G, .int .i64 c.F] 25)) 31 #[.int .i64 t.r, .int .i64 t.k, .int .i64 t.p]
    rwa [alloc_size] at h
  have HB := Lib.hid (below_al (below_al (Below.refl w.heap.size w) (.cells #[.int .i64 c.N, .slice c.pA c.pn c.pc, .slice c.sA c.sn c.sc, .int .i64 c.L, .slice c.bA c.bn c.bc, .slice c.tA c.tn c.tc, .int .i64 c.M, .int .i64 c.G, .int .i64 c.F] 25)) (.cells #[.int .i64 t.r, .int .i64 t.k, .int .i64 t.p] 31))
  have HC := Lib.hid hC0
  have HT := Lib.hid hT0
  clear hC0 hT0
  have HIN := Lib.hid (hc.on HB.out)
  obtain ⟨R, hR⟩ : ∃ R, R = (c.sn : Int) * c.L := ⟨_, rfl⟩
  have HR := Lib.hid hR.symm
  have hRb := hs.round
  have hR2 : R ≤ 65536 := by
    rw [hR]
    exact Int.le_trans (Int.mul_le_mul_of_nonneg_right hs16 (by omega)) (Int.mul_le_mul_of_nonneg_left hs.l2 (show (0 : Int) ≤ 16 by omega))
  have hsh := short hs.l1 h3 h4 h5 h6
  rw [← hR] at hRb hsh
  have hkl : 0 ≤ t.k * c.L := Int.mul_nonneg h3 (by omega)
  have hr0 : 0 ≤ t.r * R := Int.mul_nonneg h1 (by omega)
  have hr1 : t.r * R ≤ 1099511627776 * 65536 := Int.le_trans (Int.mul_le_mul_of_nonneg_right h2 (by omega)) (Int.mul_le_mul_of_nonneg_left hR2 (by omega))
  rw [age_form, ← hR] at ha
  obtain ⟨rR, hrR⟩ : ∃ rR, rR = t.r * R := ⟨_, rfl⟩
  obtain ⟨kL, hkL⟩ : ∃ kL, kL = t.k * c.L := ⟨_, rfl⟩
  obtain ⟨q, hq⟩ : ∃ q, q = kL + t.p := ⟨_, rfl⟩
  have w1 : IntKind.i64.wrap (t.r * R) = rR := by rw [hrR]; exact IntWalk.i64_in _ (by omega)
  have w2 : IntKind.i64.wrap (t.k * c.L) = kL := by rw [hkL]; exact IntWalk.i64_in _ (by omega)
  have w3 : IntKind.i64.wrap (kL + t.p) = q := by rw [hq]; exact IntWalk.i64_in _ (by omega)
  have w4 : IntKind.i64.wrap (rR + q) = a := by rw [← ha, hq, hrR, hkL]; exact IntWalk.i64_in _ (by omega)
  have w5 : IntKind.i64.wrap q = q := IntWalk.i64_in _ (by omega)
  have HL0 := Lib.hid (show 0 ≤ c.L by omega)
  have HL1 := Lib.hid hs.l2
  clear ha hR hRb hR2 hsh hkl hr0 hr1 hrR hkL hq hs hs16 hc
  go_enter Tryd.func13, Tryd.ntmps13
  go_wp2_with fail
  refine Reg.wp_slots (fun t => t == 6 || (decide (40 ≤ t) && decide (t ≤ 53))) (by kernel_rfl) (by kernel_rfl) (by kernel_rfl) (fun zz => (Reg.tbl [
    (40, .is (.pointer (some ⟨w.heap.size + 1, 0, none⟩))),
    (41, .is (.int .i64 t.r)),
    (42, .is (.agg #[.int .i64 c.N, .slice c.pA c.pn c.pc, .slice c.sA c.sn c.sc, .int .i64 c.L, .slice c.bA c.bn c.bc, .slice c.tA c.tn c.tc, .int .i64 c.M, .int .i64 c.G, .int .i64 c.F])),
    (43, .is (.int .i64 R)),
    (44, .is (.int .i64 rR)),
    (45, .is (.pointer (some ⟨w.heap.size + 1, 1, none⟩))),
    (46, .is (.int .i64 t.k)),
    (47, .is (.pointer (some ⟨w.heap.size, 3, none⟩))),
    (48, .is (.int .i64 c.L)),
    (49, .is (.int .i64 kL)),
    (50, .is (.pointer (some ⟨w.heap.size + 1, 2, none⟩))),
    (51, .is (.int .i64 t.p)),
    (52, .is (.int .i64 q)),
    (53, .is (.int .i64 a)),
    (6, .is (.int .i64 a))] zz).P) (fun zz => (Reg.tbl _ zz).on) ?_ ?_
  · simp only [Reg.frame, Reg.over, Nat.reduceAdd, Nat.reduceBEq, Nat.reduceLeDiff, decide_true, decide_false, Bool.or_true, Bool.or_false, if_true, Bool.false_eq_true, if_false, Bool.and_true, Bool.and_false]
    refine ⟨?_, ?_, ?_, ?_, ?_, ?_, ?_, ?_, ?_, ?_, ?_, ?_, ?_, ?_, ?_, trivial⟩
    · intro x u hbu hd
      have t0 := (HT.out.on hbu).cell 0
      have t1 := (HT.out.on hbu).cell 1
      have t2 := (HT.out.on hbu).cell 2
      have tl := (HT.out.on hbu).lt
      simp only [List.getElem?_toArray, List.getElem?_cons_zero, List.getElem?_cons_succ] at t0 t1 t2
      refine wpOp_step rfl fun K hK => ?_
      go_simp
      exact hK _ _ ⟨_, rfl, Below.refl _ _, fun d hd => by cases hd; exact rfl⟩
    · intro x u hbu hd
      have h40 : x 40 = .pointer (some ⟨w.heap.size + 1, 0, none⟩) := hd 0 (by decide)
      have t0 := (HT.out.on hbu).cell 0
      have t1 := (HT.out.on hbu).cell 1
      have t2 := (HT.out.on hbu).cell 2
      have tl := (HT.out.on hbu).lt
      simp only [List.getElem?_toArray, List.getElem?_cons_zero, List.getElem?_cons_succ] at t0 t1 t2
      refine wpOp_step rfl fun K hK => ?_
      simp only [h40] at hK ⊢
      go_simp
      exact hK _ _ ⟨_, rfl, Below.refl _ _, fun d hd => by cases hd; exact rfl⟩
    · intro x u hbu hd
      obtain ⟨k0, k1, k2, k3, k4, k5, k6, k7, k8⟩ := (HC.out.on hbu).cf
      have kl := (HC.out.on hbu).lt
      refine wpOp_step rfl fun K hK => ?_
      go_simp
      exact hK _ _ ⟨_, rfl, Below.refl _ _, fun d hd => by cases hd; exact rfl⟩
    · intro x u hbu hd
      have h42 : x 42 = .agg #[.int .i64 c.N, .slice c.pA c.pn c.pc, .slice c.sA c.sn c.sc, .int .i64 c.L, .slice c.bA c.bn c.bc, .slice c.tA c.tn c.tc, .int .i64 c.M, .int .i64 c.G, .int .i64 c.F] := hd 2 (by decide)
      refine wpOp_step rfl fun K hK => ?_
      simp only [h42] at hK ⊢
      go_simp
      with_reducible refine (refRound_is c R HR.out _ (HIN.out.on hbu) HL0.out HL1.out).mono ?_
      rintro e u' ⟨rfl, hb'⟩
      exact hK _ _ ⟨_, rfl, hb', fun d hd => by cases hd; exact rfl⟩
    · intro x u hbu hd
      have h41 : x 41 = .int .i64 t.r := hd 1 (by decide)
      have h43 : x 43 = .int .i64 R := hd 3 (by decide)
      refine wpOp_step rfl fun K hK => ?_
      simp only [h41, h43] at hK ⊢
      go_simp
      exact hK _ _ ⟨_, rfl, Below.refl _ _, fun d hd => by cases hd; exact rfl⟩
    · intro x u hbu hd
      have t0 := (HT.out.on hbu).cell 0
      have t1 := (HT.out.on hbu).cell 1
      have t2 := (HT.out.on hbu).cell 2
      have tl := (HT.out.on hbu).lt
      simp only [List.getElem?_toArray, List.getElem?_cons_zero, List.getElem?_cons_succ] at t0 t1 t2
      refine wpOp_step rfl fun K hK => ?_
      go_simp
      exact hK _ _ ⟨_, rfl, Below.refl _ _, fun d hd => by cases hd; exact rfl⟩
    · intro x u hbu hd
      have h45 : x 45 = .pointer (some ⟨w.heap.size + 1, 1, none⟩) := hd 5 (by decide)
      have t0 := (HT.out.on hbu).cell 0
      have t1 := (HT.out.on hbu).cell 1
      have t2 := (HT.out.on hbu).cell 2
      have tl := (HT.out.on hbu).lt
      simp only [List.getElem?_toArray, List.getElem?_cons_zero, List.getElem?_cons_succ] at t0 t1 t2
      refine wpOp_step rfl fun K hK => ?_
      simp only [h45] at hK ⊢
      go_simp
      exact hK _ _ ⟨_, rfl, Below.refl _ _, fun d hd => by cases hd; exact rfl⟩
    · intro x u hbu hd
      obtain ⟨k0, k1, k2, k3, k4, k5, k6, k7, k8⟩ := (HC.out.on hbu).cf
      have kl := (HC.out.on hbu).lt
      refine wpOp_step rfl fun K hK => ?_
      go_simp
      exact hK _ _ ⟨_, rfl, Below.refl _ _, fun d hd => by cases hd; exact rfl⟩
    · intro x u hbu hd
      have h47 : x 47 = .pointer (some ⟨w.heap.size, 3, none⟩) := hd 7 (by decide)
      obtain ⟨k0, k1, k2, k3, k4, k5, k6, k7, k8⟩ := (HC.out.on hbu).cf
      have kl := (HC.out.on hbu).lt
      refine wpOp_step rfl fun K hK => ?_
      simp only [h47] at hK ⊢
      go_simp
      exact hK _ _ ⟨_, rfl, Below.refl _ _, fun d hd => by cases hd; exact rfl⟩
    · intro x u hbu hd
      have h46 : x 46 = .int .i64 t.k := hd 6 (by decide)
      have h48 : x 48 = .int .i64 c.L := hd 8 (by decide)
      refine wpOp_step rfl fun K hK => ?_
      simp only [h46, h48] at hK ⊢
      go_simp
      exact hK _ _ ⟨_, rfl, Below.refl _ _, fun d hd => by cases hd; exact rfl⟩
    · intro x u hbu hd
      have t0 := (HT.out.on hbu).cell 0
      have t1 := (HT.out.on hbu).cell 1
      have t2 := (HT.out.on hbu).cell 2
      have tl := (HT.out.on hbu).lt
      simp only [List.getElem?_toArray, List.getElem?_cons_zero, List.getElem?_cons_succ] at t0 t1 t2
      refine wpOp_step rfl fun K hK => ?_
      go_simp
      exact hK _ _ ⟨_, rfl, Below.refl _ _, fun d hd => by cases hd; exact rfl⟩
    · intro x u hbu hd
      have h50 : x 50 = .pointer (some ⟨w.heap.size + 1, 2, none⟩) := hd 10 (by decide)
      have t0 := (HT.out.on hbu).cell 0
      have t1 := (HT.out.on hbu).cell 1
      have t2 := (HT.out.on hbu).cell 2
      have tl := (HT.out.on hbu).lt
      simp only [List.getElem?_toArray, List.getElem?_cons_zero, List.getElem?_cons_succ] at t0 t1 t2
      refine wpOp_step rfl fun K hK => ?_
      simp only [h50] at hK ⊢
      go_simp
      exact hK _ _ ⟨_, rfl, Below.refl _ _, fun d hd => by cases hd; exact rfl⟩
    · intro x u hbu hd
      have h49 : x 49 = .int .i64 kL := hd 9 (by decide)
      have h51 : x 51 = .int .i64 t.p := hd 11 (by decide)
      refine wpOp_step rfl fun K hK => ?_
      simp only [h49, h51] at hK ⊢
      go_simp
      exact hK _ _ ⟨_, rfl, Below.refl _ _, fun d hd => by cases hd; exact rfl⟩
    · intro x u hbu hd
      have h44 : x 44 = .int .i64 rR := hd 4 (by decide)
      have h52 : x 52 = .int .i64 q := hd 12 (by decide)
      refine wpOp_step rfl fun K hK => ?_
      simp only [h44, h52] at hK ⊢
      go_simp
      exact hK _ _ ⟨_, rfl, Below.refl _ _, fun d hd => by cases hd; exact rfl⟩
    · intro x u hbu hd
      have h53 : x 53 = .int .i64 a := hd 13 (by decide)
      refine wpOp_step rfl fun K hK => ?_
      simp only [h53] at hK ⊢
      go_simp
      exact hK _ _ ⟨_, rfl, Below.refl _ _, fun d hd => by cases hd; exact rfl⟩
  · intro x u hbu hall
    have h6 : x 6 = .int .i64 a := hall 14 (by decide)
    simp only [Reg.frame, Reg.over, Nat.reduceAdd, Nat.reduceBEq, Nat.reduceLeDiff, decide_true, decide_false, Bool.or_true, Bool.or_false, if_true, Bool.false_eq_true, if_false, Bool.and_true, Bool.and_false, h6]
    have HBU := Lib.hid (below_then HB.out hbu)
    clear w1 w2 w3 w4 w5 HC HT HIN HB hbu hall h6 HR
    by_cases hlt : a ≤ 1099511627776
    · go_wp2_with fail
      go_ret2
      exact ⟨by first | rfl | (simp only [if_pos hlt]; done) | (simp only [if_pos hlt]; rfl), HBU.out⟩
    · go_wp2_with fail
      go_ret2
      exact ⟨by first | rfl | (simp only [if_neg hlt]; done) | (simp only [if_neg hlt]; rfl), HBU.out⟩
theorem refAge_is (c : Cf) (t : Tm) (a : Int) (ha : agA c.sn c.L t = a) (E : Int) (hE : agE c.sn c.L t = E) (w : World) (hc : CfIn w c) (hs : Sc c.sn c.L) (hs16 : (c.sn : Int) ≤ 16) :
    Calls Tryd.prog 13 #[.agg #[.int .i64 c.N, .slice c.pA c.pn c.pc, .slice c.sA c.sn c.sc, .int .i64 c.L, .slice c.bA c.bn c.bc, .slice c.tA c.tn c.tc, .int .i64 c.M, .int .i64 c.G, .int .i64 c.F], .agg #[.int .i64 t.r, .int .i64 t.k, .int .i64 t.p]] w fun e w' => e = .returned (.tuple #[.int .i64 a, .int .i64 E]) ∧ Below w.heap.size w w' := by
  by_cases h : (0 ≤ t.r ∧ t.r ≤ 1099511627776) ∧ (0 ≤ t.k ∧ t.k < (c.sn : Int)) ∧ 0 ≤ t.p ∧ t.p < c.L
  · obtain ⟨⟨h1, h2⟩, ⟨h3, h4⟩, h5, h6⟩ := h
    have := refAge_in c t _ rfl w hc hs hs16 h1 h2 h3 h4 h5 h6
    have e : hasB c.sn c.L t = decide (ageM c.sn c.L t ≤ 1099511627776) := by simp only [hasB, h1, h3, h4, h5, h6, true_and]
    simp only [agA, agE, e, decide_eq_true_eq] at ha hE
    rw [ha, hE] at this
    exact this
  · have hf : hasB c.sn c.L t = false := by
      simp only [hasB, decide_eq_false_iff_not]
      rintro ⟨⟨hk, hk'⟩, ⟨hp, hp'⟩, hr, hg⟩
      refine h ⟨⟨hr, ?_⟩, ⟨hk, hk'⟩, hp, hp'⟩
      have hsh := short hs.l1 hk hk' hp hp'
      have hRb := hs.round
      have hrR : t.r ≤ t.r * ((c.sn : Int) * c.L) := by
        have := Int.mul_le_mul_of_nonneg_left hRb.1 hr
        omega
      rw [age_form] at hg
      omega
    simp only [agA, agE, hf, Bool.false_eq_true, if_false] at ha hE
    subst ha hE
    exact refAge_out c t w h
theorem refAhead_is (c : Cf) (t : Tm) (y : Int) (hy : ahA c.sn c.L t = y) (w : World) (hc : CfIn w c) (hs : Sc c.sn c.L) (hs16 : (c.sn : Int) ≤ 16) :
    Calls Tryd.prog 16 #[.agg #[.int .i64 c.N, .slice c.pA c.pn c.pc, .slice c.sA c.sn c.sc, .int .i64 c.L, .slice c.bA c.bn c.bc, .slice c.tA c.tn c.tc, .int .i64 c.M, .int .i64 c.G, .int .i64 c.F], .agg #[.int .i64 t.r, .int .i64 t.k, .int .i64 t.p]] w fun e w' => e = .returned (.int .i64 y) ∧ Below w.heap.size w w' := by
  have hC0 := (Blk.new w 25 #[.int .i64 c.N, .slice c.pA c.pn c.pc, .slice c.sA c.sn c.sc, .int .i64 c.L, .slice c.bA c.bn c.bc, .slice c.tA c.tn c.tc, .int .i64 c.M, .int .i64 c.G, .int .i64 c.F]).alloc (.cells #[.int .i64 t.r, .int .i64 t.k, .int .i64 t.p] 31)
  have hT0 : Blk ((w.alloc (.cells #[.int .i64 c.N, .slice c.pA c.pn c.pc, .slice c.sA c.sn c.sc, .int .i64 c.L, .slice c.bA c.bn c.bc, .slice c.tA c.tn c.tc, .int .i64 c.M, .int .i64 c.G, .int .i64 c.F] 25)).alloc (.cells #[.int .i64 t.r, .int .i64 t.k, .int .i64 t.p] 31)) (w.heap.size + 1) 31 #[.int .i64 t.r, .int .i64 t.k, .int .i64 t.p] := by
    have h := Blk.new (w.alloc (.cells #[.int .i64 c.N, .slice c.pA c.pn c.pc, .slice c.sA c.sn c.sc, .int .i64 c.L, .slice c.bA c.bn c.bc, .slice c.tA c.tn c.tc, .int .i64 c.M, .int .i64 c.G, .int .i64 c.F] 25)) 31 #[.int .i64 t.r, .int .i64 t.k, .int .i64 t.p]
    rwa [alloc_size] at h
  have HB := Lib.hid (below_al (below_al (Below.refl w.heap.size w) (.cells #[.int .i64 c.N, .slice c.pA c.pn c.pc, .slice c.sA c.sn c.sc, .int .i64 c.L, .slice c.bA c.bn c.bc, .slice c.tA c.tn c.tc, .int .i64 c.M, .int .i64 c.G, .int .i64 c.F] 25)) (.cells #[.int .i64 t.r, .int .i64 t.k, .int .i64 t.p] 31))
  have HC := Lib.hid hC0
  have HT := Lib.hid hT0
  clear hC0 hT0
  have HIN := Lib.hid (hc.on HB.out)
  by_cases hh : hasB c.sn c.L t = true
  · have HAG := Lib.hid (fun u h => refAge_is c t (ageM c.sn c.L t) (by simp [agA, hh]) 0 (by simp [agE, hh]) u h hs hs16)
    have hf := fit_of hs hh
    simp only [ahA, hh, if_true, upM] at hy
    have w1 : IntKind.i64.wrap (t.r * c.sn) = t.r * c.sn := IntWalk.i64_in _ (by have := hf.a; have := hf.b; omega)
    have w2 : IntKind.i64.wrap (t.r * c.sn + t.k) = y := by rw [← hy]; exact IntWalk.i64_in _ (by have := hf.a; have := hf.b; have := hf.c; have := hf.d; omega)
    obtain ⟨ag, hag⟩ : ∃ ag, ag = ageM c.sn c.L t := ⟨_, rfl⟩
    rw [← hag] at HAG
    clear hy hs hs16 hf hc hh hag
    go_enter Tryd.func16, Tryd.ntmps16
    go_wp2_with (go_at_call 13; (with_reducible refine (HAG.out _ HIN.out).mono ?_); rintro e w1 ⟨rfl, b1⟩; obtain ⟨k0, k1, k2, k3, k4, k5, k6, k7, k8⟩ := (HC.out.on b1).cf; have kl := (HC.out.on b1).lt; have t0 := (HT.out.on b1).cell 0; have t1 := (HT.out.on b1).cell 1; have t2 := (HT.out.on b1).cell 2; have tl := (HT.out.on b1).lt; simp only [List.getElem?_toArray, List.getElem?_cons_zero, List.getElem?_cons_succ] at t0 t1 t2; have HBU := Lib.hid (below_then HB.out b1); clear b1)
    go_ret
    exact ⟨rfl, HBU.out⟩
  · have hh' : hasB c.sn c.L t = false := by simpa using hh
    have HAG := Lib.hid (fun u h => refAge_is c t 0 (by simp [agA, hh']) 1 (by simp [agE, hh']) u h hs hs16)
    simp only [ahA, hh', Bool.false_eq_true, if_false] at hy
    subst hy
    clear hs hs16 hc hh hh'
    go_enter Tryd.func16, Tryd.ntmps16
    go_wp2_with (go_at_call 13; (with_reducible refine (HAG.out _ HIN.out).mono ?_); rintro e w1 ⟨rfl, b1⟩; have HBU := Lib.hid (below_then HB.out b1); clear b1)
    go_ret
    exact ⟨rfl, HBU.out⟩
theorem sameTm_any (t : Tm) (w : World) :
    Calls Tryd.prog 14 #[.agg #[.int .i64 t.r, .int .i64 t.k, .int .i64 t.p], .agg #[.int .i64 t.r, .int .i64 t.k, .int .i64 t.p]] w fun e w' => e = .returned (.bool true) ∧ Below w.heap.size w w' := by
  have HB := Lib.hid (below_al (below_al (Below.refl w.heap.size w) (.cells #[.int .i64 t.r, .int .i64 t.k, .int .i64 t.p] 27)) (.cells #[.int .i64 t.r, .int .i64 t.k, .int .i64 t.p] 31))
  go_enter Tryd.func14, Tryd.ntmps14
  go_wp2_with fail
  go_ret
  exact ⟨rfl, HB.out⟩
end Go.Proofs.YtonddecdeeikgaaDoor
