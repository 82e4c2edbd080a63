/-
  The contract of the law's said and lives: the chapter's examples: true. Condition: both tables are as the program's text lays them.
-/
import Derived.Test.YtbfgdphfeifglaaDoorSn4
import Derived.Test.YtbfgdphfeifglaaDoorFrM
namespace Go.Proofs.YtbfgdphfeifglaaDoor
open Go.RowKit Rg
set_option linter.unusedVariables false

abbrev sdF (f : Fr) : Sd := ⟨true, 0, f.k, f.s, f.q, f.v⟩
theorem said_is (f : Fr) (w : World) :
    Calls Tryd.prog 16 #[.agg #[.int .u8 f.k, .int .u8 f.s, .int .u32 f.q, .int .u32 f.v]] w fun e w' => e = .returned (.agg #[.bool true, .int .i64 0, .int .u8 f.k, .int .u8 f.s, .int .u32 f.q, .int .u32 f.v]) ∧ Below w.heap.size w w' := by
  have hb0 : Below w.heap.size w ((w.alloc (.cells #[.int .u8 f.k, .int .u8 f.s, .int .u32 f.q, .int .u32 f.v] 30)).alloc (.cells #[.bool true, .int .i64 0, .int .u8 f.k, .int .u8 f.s, .int .u32 f.q, .int .u32 f.v] 32)) := below_al (below_al (Below.refl w.heap.size w) _) _
  go_enter Tryd.func16, Tryd.ntmps16
  go_wp2_with fail
  exact bodyPost_ret (v := .agg #[.bool true, .int .i64 0, .int .u8 f.k, .int .u8 f.s, .int .u32 f.q, .int .u32 f.v]) (by simp [results, Tryd.results16, go_sem]) rfl ⟨rfl, hb0⟩
theorem Blk.py4 {w : World} {g : Nat} {k s q v : Int} (h : Blk w g 30 #[.int .u8 k, .int .u8 s, .int .u32 q, .int .u32 v]) : w.cell? ⟨g, 0, none⟩ = some (.int .u8 k) ∧ w.cell? ⟨g, 1, none⟩ = some (.int .u8 s) ∧ w.cell? ⟨g, 2, none⟩ = some (.int .u32 q) ∧ w.cell? ⟨g, 3, none⟩ = some (.int .u32 v) ∧ g < w.heap.size :=
  ⟨(h.cell 0).trans rfl, (h.cell 1).trans rfl, (h.cell 2).trans rfl, (h.cell 3).trans rfl, h.lt⟩
/-- What is known of a slot: a sender that sends, or is silent; that, and no error. -/
def Reg.Fact.says (s : Bool) (f : Fr) : Reg.Fact := ⟨fun v w => ∃ v', v = v' ∧ Says s f w v', fun _ _ _ hb h => by
  obtain ⟨g, e, hB⟩ := h
  exact ⟨g, e, hB.on hb⟩⟩
def Reg.Fact.tsays (s : Bool) (f : Fr) : Reg.Fact := ⟨fun v w => ∃ v', v = .tuple #[v', .int .i64 0] ∧ Says s f w v', fun _ _ _ hb h => by
  obtain ⟨g, e, hB⟩ := h
  exact ⟨g, e, hB.on hb⟩⟩
def Reg.Fact.mute : Reg.Fact := ⟨fun v w => ∃ v', v = v' ∧ Mute w v', fun _ _ _ hb h => by
  obtain ⟨g, e, hB⟩ := h
  exact ⟨g, e, hB.on hb⟩⟩
def Reg.Fact.tmute : Reg.Fact := ⟨fun v w => ∃ v', v = .tuple #[v', .int .i64 0] ∧ Mute w v', fun _ _ _ hb h => by
  obtain ⟨g, e, hB⟩ := h
  exact ⟨g, e, hB.on hb⟩⟩

abbrev ff0 : Fr := ⟨0, 2, 0, 0, 5⟩
abbrev ff1 : Fr := ⟨0, 2, 0, 0, 6⟩
theorem sd_fit (f : Fr) (h : f.Fit) : (sdF f).Fit := ⟨h.k0, h.k1, h.s0, h.s1, h.q0, h.q1, h.v0, h.v1⟩
theorem ff0_fit : ff0.Fit := ⟨by decide, by decide, by decide, by decide, by decide, by decide, by decide, by decide⟩
theorem out_at (L : List Int) (s : Bool) (q : Int) (k : Nat) (hk : k < 114) (h : q = (wb s).b + k) : outM L (wb s) q = L.getD k 0 := by
  have h1 : opB (wb s) q = true := by
    have := wb_len s
    simp only [opB, decide_eq_true_eq]; omega
  rw [outM, if_pos h1, opI, if_pos h1, h]
  congr 1
  omega
theorem out_off (L : List Int) (s : Bool) (q : Int) (h : q < (wb s).b ∨ (wb s).b + 114 ≤ q) : outM L (wb s) q = 0 := by
  rw [outM, if_neg]
  have := wb_len s
  simp only [opB, decide_eq_true_eq]; omega
theorem ex_pl : plM 4 [0, 2] 0 0 0 = halfI false := rfl
theorem ex_he : halfE 4 [0, 2] 0 0 = 0 := rfl
set_option maxRecDepth 100000 in
set_option maxHeartbeats 4000000 in
theorem lives_sn (w : World) (hw : Laid2 w) :
    Calls Tryd.prog 8 #[] w fun e w' => e = .returned (.bool true) ∧ Below w.heap.size w w' := by
  have hB0 : Below w.heap.size w (((w.alloc (.cells #[.int .i64 0, .int .i64 2] 3)).alloc (.cells #[.int .i64 0, .int .i64 1] 3)).alloc (.cells #[.int .i64 0, .int .i64 0, .int .i64 0, .int .i64 0] 3)) := below_al (below_al (below_al (Below.refl _ _) _) _) _
  have l1 := ((Lies.new w 3 .i64 [0, 2] 2 rfl #[.int .i64 0, .int .i64 2] rfl).al (.cells #[.int .i64 0, .int .i64 1] 3)).al (.cells #[.int .i64 0, .int .i64 0, .int .i64 0, .int .i64 0] 3)
  have l2 := (Lies.new (w.alloc (.cells #[.int .i64 0, .int .i64 2] 3)) 3 .i64 [0, 1] 2 rfl #[.int .i64 0, .int .i64 1] rfl).al (.cells #[.int .i64 0, .int .i64 0, .int .i64 0, .int .i64 0] 3)
  have l3 := Lies.new ((w.alloc (.cells #[.int .i64 0, .int .i64 2] 3)).alloc (.cells #[.int .i64 0, .int .i64 1] 3)) 3 .i64 [0, 0, 0, 0] 4 rfl #[.int .i64 0, .int .i64 0, .int .i64 0, .int .i64 0] rfl
  simp only [alloc_size] at l1 l2 l3
  have HCF := Lib.hid (show CfIn (((w.alloc (.cells #[.int .i64 0, .int .i64 2] 3)).alloc (.cells #[.int .i64 0, .int .i64 1] 3)).alloc (.cells #[.int .i64 0, .int .i64 0, .int .i64 0, .int .i64 0] 3)) (wnCf (some ⟨w.heap.size, 0, none⟩) (some ⟨w.heap.size + 1, 0, none⟩) (some ⟨w.heap.size + 1 + 1, 0, none⟩)) from ⟨by simpa only [alloc_size] using l1, by simpa only [alloc_size] using l2, by simpa only [alloc_size] using l3, LiesT.nil_, by simp⟩)
  have HW := Lib.hid (hw.on hB0)
  have HB0 := Lib.hid hB0
  have HOK := Lib.hid (wnCf_ok (some ⟨w.heap.size, 0, none⟩) (some ⟨w.heap.size + 1, 0, none⟩) (some ⟨w.heap.size + 1 + 1, 0, none⟩))
  have HLN := Lib.hid (symF_len ff0)
  have HFS := Lib.hid (fun u => frSyms_yes ff0 true false u ff0_fit (by decide))
  rw [show ofL (putL ff0.body) ++ tailL true false = symF ff0 from rfl] at HFS
  have HLO := Lib.hid (fun u => law5_of_any ff0 u)
  obtain ⟨L, hL⟩ : ∃ L, L = symF ff0 := ⟨_, rfl⟩
  rw [← hL] at HLN HFS
  have HPL := Lib.hid ex_pl
  have HE0 := Lib.hid ex_he
  have HSM := Lib.hid (show sameB (sdF ff0) (sdF ff0) = true from rfl)
  have HSN := Lib.hid (show sameB (sdF ff0) (sdF ff1) = false from rfl)
  have HFIT := Lib.hid (sd_fit ff0 ff0_fit)
  have HMB := Lib.hid (show mayB 0 (sdF ff0).k = true from rfl)
  have HO1 := Lib.hid (show outM (symF ff0) (wb false) 1 = L.getD 0 0 by rw [← hL]; exact out_at L false 1 0 (by omega) rfl)
  have HO2 := Lib.hid (show outM (symF ff0) (wb (!false)) 1 = 0 from out_off _ true 1 (.inl (by decide)))
  have HO3 := Lib.hid (show outM (symF ff0) (wb false) 2 = L.getD 1 0 by rw [← hL]; exact out_at L false 2 1 (by omega) rfl)
  have HO4 := Lib.hid (show outM (symF ff0) (wb (!false)) 2 = L.getD 0 0 by rw [← hL]; exact out_at L true 2 0 (by omega) rfl)
  obtain ⟨y0, hy0⟩ : ∃ y, y = L.getD 0 0 := ⟨_, rfl⟩
  obtain ⟨y1, hy1⟩ : ∃ y, y = L.getD 1 0 := ⟨_, rfl⟩
  rw [← hy0] at HO1 HO4
  rw [← hy1] at HO3
  have HY0 := Lib.hid hy0
  have HY1 := Lib.hid hy1
  clear hw hB0 l1 l2 l3 hL hy0 hy1
  go_enter Tryd.func8, Tryd.ntmps8
  go_upto_region 6 with (first
    | (go_at_call 23; (with_reducible refine (new_yes (wnCf (some ⟨w.heap.size, 0, none⟩) (some ⟨w.heap.size + 1, 0, none⟩) (some ⟨w.heap.size + 1 + 1, 0, none⟩)) (((w.alloc (.cells #[.int .i64 0, .int .i64 2] 3)).alloc (.cells #[.int .i64 0, .int .i64 1] 3)).alloc (.cells #[.int .i64 0, .int .i64 0, .int .i64 0, .int .i64 0] 3)) HCF.out HW.out.ways HOK.out).mono ?_); rintro e w1 ⟨gN, N1, N2, N3, N4, rfl, -, hN0, -, b1⟩; have hN := netP_of hN0 HOK.out; have b1' := below_al (below_al b1 (.cells #[.int .u8 2, .int .u8 0, .int .u32 0, .int .u32 5] 30)) (.cells #[.int .u8 2, .int .u8 0, .int .u32 0, .int .u32 6] 30); have HN1 := Lib.hid (hN.on (below_al (below_al (Below.refl _ _) (.cells #[.int .u8 2, .int .u8 0, .int .u32 0, .int .u32 5] 30)) (.cells #[.int .u8 2, .int .u8 0, .int .u32 0, .int .u32 6] 30))); have HW1 := Lib.hid (HW.out.on b1'); have HB1 := Lib.hid (below_then HB0.out b1'); have hV1 := (Blk.new w1 30 #[.int .u8 2, .int .u8 0, .int .u32 0, .int .u32 5]).alloc (.cells #[.int .u8 2, .int .u8 0, .int .u32 0, .int .u32 6] 30); have hU1 := Blk.new (w1.alloc (.cells #[.int .u8 2, .int .u8 0, .int .u32 0, .int .u32 5] 30)) 30 #[.int .u8 2, .int .u8 0, .int .u32 0, .int .u32 6]; rw [alloc_size] at hU1; clear b1 b1' hN0 hN HCF HW HOK)
    | (go_at_call 19; (with_reducible refine (HLO.out _).mono ?_); rintro e w2 ⟨rfl, b2⟩)
    | (go_at_call 24; (with_reducible refine (HFS.out _).mono ?_); rintro e w3 ⟨gs, rfl, -, hS3, b3⟩; have b3' := below_then b2 b3; have HN3 := Lib.hid (HN1.out.on b3'); have HW3 := Lib.hid (HW1.out.on b3'); have HB3 := Lib.hid (below_then HB1.out b3'); have HV3 := Lib.hid (hV1.on b3'); have HU3 := Lib.hid (hU1.on b3'); have HL3 := Lib.hid (hS3.lies HLN.out); clear b2 b3 b3' hS3 HN1 HW1 HB1 hV1 hU1))
  refine Reg.wp_slots (fun t => t == 7 || t == 8 || (decide (35 ≤ t) && decide (t ≤ 43))) (by kernel_rfl) (by kernel_rfl) (by kernel_rfl) (fun zz => (Reg.tbl [
    (36, .is (.pointer (some ⟨gN, 0, none⟩))),
    (37, .is (.agg #[.int .u8 2, .int .u8 0, .int .u32 0, .int .u32 5])),
    (38, .is (.agg #[.bool true, .int .i64 0, .int .u8 2, .int .u8 0, .int .u32 0, .int .u32 5])),
    (39, .is (.agg #[.int .u8 2, .int .u8 0, .int .u32 0, .int .u32 5])),
    (40, .is (.agg #[.bool true, .int .i64 0, .int .u8 2, .int .u8 0, .int .u32 0, .int .u32 5])),
    (41, .tsays false ff0),
    (35, .tsays false ff0),
    (42, .says false ff0),
    (43, .is (.int .i64 0)),
    (7, .says false ff0),
    (8, .is (.int .i64 0))] zz).P) (fun zz => (Reg.tbl _ zz).on) ?_ ?_
  · simp only [Reg.frame, Reg.over, Nat.reduceAdd, Nat.reduceBEq, Nat.reduceLeDiff, decide_true, decide_false, Bool.or_true, Bool.or_false, if_true, Bool.false_eq_true, if_false, Bool.and_true, Bool.and_false]
    refine ⟨?_, ?_, ?_, ?_, ?_, ?_, ?_, ?_, ?_, ?_, ?_, trivial⟩
    · intro x u hbu hd
      refine wpOp_step rfl fun K hK => ?_
      go_simp
      exact hK _ _ ⟨_, rfl, Below.refl _ _, fun d hd => by cases hd; exact rfl⟩
    · intro x u hbu hd
      obtain ⟨a0, a1, a2, a3, al⟩ := (HV3.out.on hbu).py4
      refine wpOp_step rfl fun K hK => ?_
      go_simp
      exact hK _ _ ⟨_, rfl, Below.refl _ _, fun d hd => by cases hd; exact rfl⟩
    · intro x u hbu hd
      have h37 : x 37 = .agg #[.int .u8 2, .int .u8 0, .int .u32 0, .int .u32 5] := hd 1 (by decide)
      refine wpOp_step rfl fun K hK => ?_
      simp only [h37] at hK ⊢
      go_simp
      with_reducible refine (said_is ff0 _).mono ?_
      rintro e u' ⟨rfl, hb'⟩
      exact hK _ _ ⟨_, rfl, hb', fun d hd => by cases hd; exact rfl⟩
    · intro x u hbu hd
      obtain ⟨a0, a1, a2, a3, al⟩ := (HV3.out.on hbu).py4
      refine wpOp_step rfl fun K hK => ?_
      go_simp
      exact hK _ _ ⟨_, rfl, Below.refl _ _, fun d hd => by cases hd; exact rfl⟩
    · intro x u hbu hd
      have h39 : x 39 = .agg #[.int .u8 2, .int .u8 0, .int .u32 0, .int .u32 5] := hd 3 (by decide)
      refine wpOp_step rfl fun K hK => ?_
      simp only [h39] at hK ⊢
      go_simp
      with_reducible refine (said_is ff0 _).mono ?_
      rintro e u' ⟨rfl, hb'⟩
      exact hK _ _ ⟨_, rfl, hb', fun d hd => by cases hd; exact rfl⟩
    · intro x u hbu hd
      have h36 : x 36 = .pointer (some ⟨gN, 0, none⟩) := hd 0 (by decide)
      have h38 : x 38 = .agg #[.bool true, .int .i64 0, .int .u8 2, .int .u8 0, .int .u32 0, .int .u32 5] := hd 2 (by decide)
      have h40 : x 40 = .agg #[.bool true, .int .i64 0, .int .u8 2, .int .u8 0, .int .u32 0, .int .u32 5] := hd 4 (by decide)
      refine wpOp_step rfl fun K hK => ?_
      simp only [h36, h38, h40] at hK ⊢
      go_simp
      with_reducible refine (new_says _ 4 [0, 2] 0 0 (sdF ff0) (sdF ff0) false (by decide) HPL.out HSM.out HFIT.out HMB.out _ (HN3.out.on hbu) (HW3.out.on hbu)).mono ?_
      rintro e u' ⟨v', rfl, hS', hb'⟩
      exact hK _ _ ⟨_, rfl, hb', fun d hd => by cases hd; exact ⟨_, rfl, hS'⟩⟩
    · intro x u hbu hd
      have k41 : (Reg.Fact.tsays false ff0 : Reg.Fact).P (x 41) u := hd 5 (by decide)
      obtain ⟨v41, h41, S41⟩ := k41
      refine wpOp_step rfl fun K hK => ?_
      simp only [h41] at hK ⊢
      go_simp
      exact hK _ _ ⟨_, rfl, Below.refl _ _, fun d hd => by cases hd; exact ⟨_, rfl, S41⟩⟩
    · intro x u hbu hd
      have k35 : (Reg.Fact.tsays false ff0 : Reg.Fact).P (x 35) u := hd 6 (by decide)
      obtain ⟨v35, h35, S35⟩ := k35
      refine wpOp_step rfl fun K hK => ?_
      simp only [h35] at hK ⊢
      go_simp
      exact hK _ _ ⟨_, rfl, Below.refl _ _, fun d hd => by cases hd; exact ⟨_, rfl, S35⟩⟩
    · intro x u hbu hd
      have k35 : (Reg.Fact.tsays false ff0 : Reg.Fact).P (x 35) u := hd 6 (by decide)
      obtain ⟨v35, h35, S35⟩ := k35
      refine wpOp_step rfl fun K hK => ?_
      simp only [h35] at hK ⊢
      go_simp
      exact hK _ _ ⟨_, rfl, Below.refl _ _, fun d hd => by cases hd; exact rfl⟩
    · intro x u hbu hd
      have k42 : (Reg.Fact.says false ff0 : Reg.Fact).P (x 42) u := hd 7 (by decide)
      obtain ⟨v42, h42, S42⟩ := k42
      refine wpOp_step rfl fun K hK => ?_
      simp only [h42] at hK ⊢
      go_simp
      exact hK _ _ ⟨_, rfl, Below.refl _ _, fun d hd => by cases hd; exact ⟨_, rfl, S42⟩⟩
    · intro x u hbu hd
      have h43 : x 43 = .int .i64 0 := hd 8 (by decide)
      refine wpOp_step rfl fun K hK => ?_
      simp only [h43] at hK ⊢
      go_simp
      exact hK _ _ ⟨_, rfl, Below.refl _ _, fun d hd => by cases hd; exact rfl⟩
  · intro y u2 hbu hall
    have k7 : (Reg.Fact.says false ff0 : Reg.Fact).P (y 7) u2 := hall 9 (by decide)
    obtain ⟨v7, h7, S7⟩ := k7
    have h8 : y 8 = .int .i64 0 := hall 10 (by decide)
    simp only [Reg.frame, Reg.over, Nat.reduceAdd, Nat.reduceBEq, Nat.reduceLeDiff, decide_true, decide_false, Bool.or_true, Bool.or_false, if_true, Bool.false_eq_true, if_false, Bool.and_true, Bool.and_false, h7, h8]
    have HN4 := Lib.hid (HN3.out.on hbu)
    have HW4 := Lib.hid (HW3.out.on hbu)
    have HB4 := Lib.hid (below_then HB3.out hbu)
    have HV4 := Lib.hid (HV3.out.on hbu)
    have HU4 := Lib.hid (HU3.out.on hbu)
    have HL4 := Lib.hid (HL3.out.on hbu)
    have HS4 := Lib.hid S7
    clear hbu hall h7 h8 S7 HN3 HW3 HB3 HV3 HU3 HL3
    go_upto_region 9 with (first
      | (go_at_call 12; (with_reducible refine (out_says false ff0 v7 1 y0 0 HO1.out HO2.out _ HS4.out).mono ?_); rintro e w5 ⟨rfl, b5⟩)
      | (go_at_call 12; (with_reducible refine (out_says false ff0 v7 2 y1 y0 HO3.out HO4.out _ (HS4.out.on b5)).mono ?_); rintro e w6 ⟨rfl, b6⟩; have b6' := below_then b5 b6; have HN6 := Lib.hid (HN4.out.on b6'); have HW6 := Lib.hid (HW4.out.on b6'); have HB6 := Lib.hid (below_then HB4.out b6'); have HV6 := Lib.hid (HV4.out.on b6'); have HU6 := Lib.hid (HU4.out.on b6'); have HL6 := Lib.hid (HL4.out.on b6'); clear b5 b6 b6' HN4 HW4 HB4 HV4 HU4 HL4 HS4))
    refine Reg.wp_slots (fun t => t == 13 || t == 14 || (decide (54 ≤ t) && decide (t ≤ 62))) (by kernel_rfl) (by kernel_rfl) (by kernel_rfl) (fun zz => (Reg.tbl [
      (55, .is (.pointer (some ⟨gN, 0, none⟩))),
      (56, .is (.agg #[.int .u8 2, .int .u8 0, .int .u32 0, .int .u32 5])),
      (57, .is (.agg #[.bool true, .int .i64 0, .int .u8 2, .int .u8 0, .int .u32 0, .int .u32 5])),
      (58, .is (.agg #[.int .u8 2, .int .u8 0, .int .u32 0, .int .u32 6])),
      (59, .is (.agg #[.bool true, .int .i64 0, .int .u8 2, .int .u8 0, .int .u32 0, .int .u32 6])),
      (60, .tmute),
      (54, .tmute),
      (61, .mute),
      (62, .is (.int .i64 0)),
      (13, .mute),
      (14, .is (.int .i64 0))] zz).P) (fun zz => (Reg.tbl _ zz).on) ?_ ?_
    · simp only [Reg.frame, Reg.over, Nat.reduceAdd, Nat.reduceBEq, Nat.reduceLeDiff, decide_true, decide_false, Bool.or_true, Bool.or_false, if_true, Bool.false_eq_true, if_false, Bool.and_true, Bool.and_false]
      refine ⟨?_, ?_, ?_, ?_, ?_, ?_, ?_, ?_, ?_, ?_, ?_, trivial⟩
      · intro x u hbu hd
        refine wpOp_step rfl fun K hK => ?_
        go_simp
        exact hK _ _ ⟨_, rfl, Below.refl _ _, fun d hd => by cases hd; exact rfl⟩
      · intro x u hbu hd
        obtain ⟨a0, a1, a2, a3, al⟩ := (HV6.out.on hbu).py4
        refine wpOp_step rfl fun K hK => ?_
        go_simp
        exact hK _ _ ⟨_, rfl, Below.refl _ _, fun d hd => by cases hd; exact rfl⟩
      · intro x u hbu hd
        have h56 : x 56 = .agg #[.int .u8 2, .int .u8 0, .int .u32 0, .int .u32 5] := hd 1 (by decide)
        refine wpOp_step rfl fun K hK => ?_
        simp only [h56] at hK ⊢
        go_simp
        with_reducible refine (said_is ff0 _).mono ?_
        rintro e u' ⟨rfl, hb'⟩
        exact hK _ _ ⟨_, rfl, hb', fun d hd => by cases hd; exact rfl⟩
      · intro x u hbu hd
        obtain ⟨a0, a1, a2, a3, al⟩ := (HU6.out.on hbu).py4
        refine wpOp_step rfl fun K hK => ?_
        go_simp
        exact hK _ _ ⟨_, rfl, Below.refl _ _, fun d hd => by cases hd; exact rfl⟩
      · intro x u hbu hd
        have h58 : x 58 = .agg #[.int .u8 2, .int .u8 0, .int .u32 0, .int .u32 6] := hd 3 (by decide)
        refine wpOp_step rfl fun K hK => ?_
        simp only [h58] at hK ⊢
        go_simp
        with_reducible refine (said_is ff1 _).mono ?_
        rintro e u' ⟨rfl, hb'⟩
        exact hK _ _ ⟨_, rfl, hb', fun d hd => by cases hd; exact rfl⟩
      · intro x u hbu hd
        have h55 : x 55 = .pointer (some ⟨gN, 0, none⟩) := hd 0 (by decide)
        have h57 : x 57 = .agg #[.bool true, .int .i64 0, .int .u8 2, .int .u8 0, .int .u32 0, .int .u32 5] := hd 2 (by decide)
        have h59 : x 59 = .agg #[.bool true, .int .i64 0, .int .u8 2, .int .u8 0, .int .u32 0, .int .u32 6] := hd 4 (by decide)
        refine wpOp_step rfl fun K hK => ?_
        simp only [h55, h57, h59] at hK ⊢
        go_simp
        with_reducible refine (new_mute _ 4 [0, 2] 0 0 (sdF ff0) (sdF ff1) HE0.out HSN.out _ (HN6.out.on hbu) (HW6.out.on hbu)).mono ?_
        rintro e u' ⟨g', rfl, hM', hb'⟩
        exact hK _ _ ⟨_, rfl, hb', fun d hd => by cases hd; exact ⟨_, rfl, .inr ⟨_, rfl, hM'⟩⟩⟩
      · intro x u hbu hd
        have k60 : (Reg.Fact.tmute : Reg.Fact).P (x 60) u := hd 5 (by decide)
        obtain ⟨v60, h60, S60⟩ := k60
        refine wpOp_step rfl fun K hK => ?_
        simp only [h60] at hK ⊢
        go_simp
        exact hK _ _ ⟨_, rfl, Below.refl _ _, fun d hd => by cases hd; exact ⟨_, rfl, S60⟩⟩
      · intro x u hbu hd
        have k54 : (Reg.Fact.tmute : Reg.Fact).P (x 54) u := hd 6 (by decide)
        obtain ⟨v54, h54, S54⟩ := k54
        refine wpOp_step rfl fun K hK => ?_
        simp only [h54] at hK ⊢
        go_simp
        exact hK _ _ ⟨_, rfl, Below.refl _ _, fun d hd => by cases hd; exact ⟨_, rfl, S54⟩⟩
      · intro x u hbu hd
        have k54 : (Reg.Fact.tmute : Reg.Fact).P (x 54) u := hd 6 (by decide)
        obtain ⟨v54, h54, S54⟩ := k54
        refine wpOp_step rfl fun K hK => ?_
        simp only [h54] at hK ⊢
        go_simp
        exact hK _ _ ⟨_, rfl, Below.refl _ _, fun d hd => by cases hd; exact rfl⟩
      · intro x u hbu hd
        have k61 : (Reg.Fact.mute : Reg.Fact).P (x 61) u := hd 7 (by decide)
        obtain ⟨v61, h61, S61⟩ := k61
        refine wpOp_step rfl fun K hK => ?_
        simp only [h61] at hK ⊢
        go_simp
        exact hK _ _ ⟨_, rfl, Below.refl _ _, fun d hd => by cases hd; exact ⟨_, rfl, S61⟩⟩
      · intro x u hbu hd
        have h62 : x 62 = .int .i64 0 := hd 8 (by decide)
        refine wpOp_step rfl fun K hK => ?_
        simp only [h62] at hK ⊢
        go_simp
        exact hK _ _ ⟨_, rfl, Below.refl _ _, fun d hd => by cases hd; exact rfl⟩
    · intro z u3 hbu hall
      have k13 : (Reg.Fact.mute : Reg.Fact).P (z 13) u3 := hall 9 (by decide)
      obtain ⟨v13, h13, S13⟩ := k13
      have h14 : z 14 = .int .i64 0 := hall 10 (by decide)
      simp only [Reg.frame, Reg.over, Nat.reduceAdd, Nat.reduceBEq, Nat.reduceLeDiff, decide_true, decide_false, Bool.or_true, Bool.or_false, if_true, Bool.false_eq_true, if_false, Bool.and_true, Bool.and_false, h13, h14]
      have HB7 := Lib.hid (below_then HB6.out hbu)
      have HL7 := Lib.hid (HL6.out.on hbu)
      clear hbu hall h13 h14 HN6 HW6 HB6 HV6 HU6 HL6
      have e1 : (y0 == L.getD 0 0) = true := by rw [HY0.out]; exact beq_self_eq_true _
      go_wp2_with (go_at_call 12; (with_reducible refine (out_mute v13 2 _ S13).mono ?_); rintro e w8 ⟨rfl, b8⟩; have hB8 := below_then HB7.out b8; obtain ⟨lb, lo, lA, llt, lc⟩ := (HL7.out.on b8).at_ (by omega); have lc0 := lc 0 (by omega); have lc1 := lc 1 (by omega); rw [← HY0.out] at lc0; rw [← HY1.out] at lc1; cases lA; have ix0 := fun W => idxSyms (A := some ⟨gs, 0, none⟩) (n := 114) (k := 0) 114 rfl (by omega) W; have ix1 := fun W => idxSyms (A := some ⟨gs, 0, none⟩) (n := 114) (k := 1) 114 rfl (by omega) W; clear lc b8)
      go_ret
      exact ⟨rfl, hB8⟩
end Go.Proofs.YtbfgdphfeifglaaDoor

