/-
  The law FramesPut: it returns true, and nothing that was there has turned. Conditions: the payload's numbers are of their kinds.
-/
import Derived.Test.YtkjdlcobidglcaaFrAll
namespace Go.Proofs.Ytkjdlcobidglcaa
open Go.RowKit Crc

set_option maxRecDepth 100000 in
set_option maxHeartbeats 8000000 in
theorem put_walk (f : Fr) (a b : Bool) (w : World) (hf : f.Fit) :
    Calls Try.prog 3 #[.int .i64 f.o, .agg #[.int .u8 f.k, .int .u8 f.s, .int .u32 f.q, .int .u32 f.v], .agg #[.bool a, .bool b]] w fun e w' => e = .returned (.bool true) ∧ Below w.heap.size w w' := by
  have HOF := Lib.hid (fun u => law5_of_any f u)
  have HPT := Lib.hid (fun u => frPut_all f u hf)
  have HRP := Lib.hid (fun u => refFrPut_all f u hf)
  have HSY := Lib.hid (fun u => frSyms_all f u hf a b)
  have HRS := Lib.hid (fun u => refFrSyms_all f u hf a b)
  have HXB := Lib.hid (putX_bd f hf)
  have hN : putN f ≤ 14 := by unfold putN; split <;> omega
  have hM : symN f ≤ 114 := by unfold symN; split <;> omega
  obtain ⟨N, hN0⟩ : ∃ N, N = putN f := ⟨_, rfl⟩
  obtain ⟨X, hX0⟩ : ∃ X, X = putX f := ⟨_, rfl⟩
  obtain ⟨C, hC0⟩ : ∃ C, C = putC f := ⟨_, rfl⟩
  obtain ⟨M, hM0⟩ : ∃ M, M = symN f := ⟨_, rfl⟩
  obtain ⟨Y, hY0⟩ : ∃ Y, Y = symX f a b := ⟨_, rfl⟩
  rw [← hN0, ← hX0, ← hC0] at HPT HRP
  rw [← hM0, ← hY0, ← hC0] at HSY HRS
  rw [← hX0] at HXB
  rw [← hN0] at hN
  rw [← hM0] at hM
  have HSB := Lib.hid (fun u A B c (h1 : Lies .u8 u u.heap.size A N X) (h2 : Lies .u8 u u.heap.size B N X) => sameBytes_true A B N N N c X X u h1 h2 HXB.out rfl)
  have HSS := Lib.hid (fun u A B c (h1 : Lies .u8 u u.heap.size A M Y) (h2 : Lies .u8 u u.heap.size B M Y) => same_true A B M M M c Y Y u h1 h2 (by omega) (by omega) rfl)
  have HS2 := Lib.hid (fun u A B (h1 : Lies .u8 u u.heap.size A 2 (tailL a b)) (h2 : Lies .u8 u u.heap.size B 2 (tailL a b)) => same_true A B 2 2 2 2 _ _ u h1 h2 (by omega) (by omega) rfl)
  clear hN0 hX0 hC0 hM0 hY0
  have hw := Below.refl w.heap.size w
  go_enter Try.func3, Try.ntmps3
  have hP := ((Blk.new w 25 #[.int .u8 f.k, .int .u8 f.s, .int .u32 f.q, .int .u32 f.v]).alloc (.cells #[.bool a, .bool b] 26)).alloc (.cells #[.int .i64 f.o, .int .u8 f.k, .int .u8 f.s, .int .u32 f.q, .int .u32 f.v] 28)
  have hT := Blk.new (w.alloc (.cells #[.int .u8 f.k, .int .u8 f.s, .int .u32 f.q, .int .u32 f.v] 25)) 26 #[.bool a, .bool b]
  rw [alloc_size w] at hT
  replace hT := hT.alloc (.cells #[.int .i64 f.o, .int .u8 f.k, .int .u8 f.s, .int .u32 f.q, .int .u32 f.v] 28)
  have hF := Blk.new ((w.alloc (.cells #[.int .u8 f.k, .int .u8 f.s, .int .u32 f.q, .int .u32 f.v] 25)).alloc (.cells #[.bool a, .bool b] 26)) 28 #[.int .i64 f.o, .int .u8 f.k, .int .u8 f.s, .int .u32 f.q, .int .u32 f.v]
  rw [alloc_size (w.alloc (.cells #[.int .u8 f.k, .int .u8 f.s, .int .u32 f.q, .int .u32 f.v] 25)), alloc_size w] at hF
  replace hw := below_al (below_al (below_al hw (.cells #[.int .u8 f.k, .int .u8 f.s, .int .u32 f.q, .int .u32 f.v] 25)) (.cells #[.bool a, .bool b] 26)) (.cells #[.int .i64 f.o, .int .u8 f.k, .int .u8 f.s, .int .u32 f.q, .int .u32 f.v] 28)
  go_wp2_with fail
  with_reducible refine (HOF.out _).mono ?_
  rintro e w1 ⟨rfl, hb⟩
  replace hP := hP.on hb
  replace hT := hT.on hb
  replace hF := hF.on hb
  replace hw := below_then hw hb
  clear hb
  go_wp2_with fail
  with_reducible refine (HPT.out _).mono ?_
  rintro e w2 ⟨A2, rfl, hl2, hE2, hb⟩
  replace hE2 := hE2.mono (base' := w.heap.size) hw.size
  replace hP := hP.on hb
  replace hT := hT.on hb
  replace hF := hF.on hb
  replace hw := below_then hw hb
  clear hb
  have ce0 := hF.cell 0
  have ce1 := hF.cell 1
  have ce2 := hF.cell 2
  have ce3 := hF.cell 3
  have ce4 := hF.cell 4
  simp only [List.getElem?_toArray, List.getElem?_cons_zero, List.getElem?_cons_succ] at ce0 ce1 ce2 ce3 ce4
  have cel := hF.lt
  go_wp2_with fail
  with_reducible refine (HRP.out _).mono ?_
  rintro e w3 ⟨A3, c3, rfl, hl3, hb⟩
  clear ce0 ce1 ce2 ce3 ce4 cel
  replace hP := hP.on hb
  replace hT := hT.on hb
  replace hF := hF.on hb
  replace hl2 := hl2.on hb
  replace hE2 := hE2.on hb
  replace hw := below_then hw hb
  clear hb
  have de0 := hT.cell 0
  have de1 := hT.cell 1
  simp only [List.getElem?_toArray, List.getElem?_cons_zero, List.getElem?_cons_succ] at de0 de1
  have del := hT.lt
  go_wp2_with fail
  clear de0 de1 del
  have hA := Blk.new w3 38 #[.bool a, .bool b]
  replace hP := hP.on (below_al (Below.refl _ _) (.cells #[.bool a, .bool b] 38))
  replace hT := hT.on (below_al (Below.refl _ _) (.cells #[.bool a, .bool b] 38))
  replace hF := hF.on (below_al (Below.refl _ _) (.cells #[.bool a, .bool b] 38))
  replace hl2 := hl2.on (below_al (Below.refl _ _) (.cells #[.bool a, .bool b] 38))
  replace hE2 := hE2.on (below_al (Below.refl _ _) (.cells #[.bool a, .bool b] 38))
  replace hl3 := hl3.on (below_al (Below.refl _ _) (.cells #[.bool a, .bool b] 38))
  replace hw := below_al hw (.cells #[.bool a, .bool b] 38)
  have hB := Blk.new (w3.alloc (.cells #[.bool a, .bool b] 38)) 39 #[.bool a, .bool b]
  rw [alloc_size w3] at hB
  replace hP := hP.on (below_al (Below.refl _ _) (.cells #[.bool a, .bool b] 39))
  replace hT := hT.on (below_al (Below.refl _ _) (.cells #[.bool a, .bool b] 39))
  replace hF := hF.on (below_al (Below.refl _ _) (.cells #[.bool a, .bool b] 39))
  replace hl2 := hl2.on (below_al (Below.refl _ _) (.cells #[.bool a, .bool b] 39))
  replace hE2 := hE2.on (below_al (Below.refl _ _) (.cells #[.bool a, .bool b] 39))
  replace hl3 := hl3.on (below_al (Below.refl _ _) (.cells #[.bool a, .bool b] 39))
  replace hA := hA.on (below_al (Below.refl _ _) (.cells #[.bool a, .bool b] 39))
  replace hw := below_al hw (.cells #[.bool a, .bool b] 39)
  obtain ⟨u0, hu0⟩ : ∃ u0, u0 = (w3.alloc (.cells #[.bool a, .bool b] 38)).alloc (.cells #[.bool a, .bool b] 39) := ⟨_, rfl⟩
  obtain ⟨n3, hn3⟩ : ∃ n3, n3 = w3.heap.size := ⟨_, rfl⟩
  rw [← hu0] at hP hT hF hl2 hE2 hl3 hA hB hw ⊢
  rw [← hn3] at hA hB ⊢
  clear hu0 hn3
  have H_hP := Lib.hid hP
  have H_hT := Lib.hid hT
  have H_hF := Lib.hid hF
  have H_hl2 := Lib.hid hl2
  have H_hE2 := Lib.hid hE2
  have H_hl3 := Lib.hid hl3
  have H_hA := Lib.hid hA
  have H_hB := Lib.hid hB
  have H_hw := Lib.hid hw
  clear hP hT hF hl2 hE2 hl3 hA hB hw
  refine Reg.wp_slots (fun t => t == 14 || t == 15 || (decide (44 ≤ t) && decide (t ≤ 51))) (by kernel_rfl) (by kernel_rfl) (by kernel_rfl) (fun zz => (Reg.tbl [
    (45, .is (.int .i64 f.o)),
    (46, .is (.agg #[.int .u8 f.k, .int .u8 f.s, .int .u32 f.q, .int .u32 f.v])),
    (47, .is (.agg #[.int .i64 f.o, .int .u8 f.k, .int .u8 f.s, .int .u32 f.q, .int .u32 f.v])),
    (48, .is (.agg #[.bool a, .bool b])),
    (49, .symT M Y C w.heap.size),
    (44, .symT M Y C w.heap.size),
    (50, .symS M Y w.heap.size),
    (51, .is (.int .i64 C)),
    (14, .symS M Y w.heap.size),
    (15, .is (.int .i64 C))] zz).P) (fun zz => (Reg.tbl _ zz).on) ?_ ?_
  · simp only [Reg.frame, Reg.over, Nat.reduceAdd, Nat.reduceBEq, Nat.reduceLeDiff, decide_true, decide_false, Bool.or_true, Bool.or_false, if_true, Bool.false_eq_true, if_false, Bool.and_true, Bool.and_false]
    refine ⟨?_, ?_, ?_, ?_, ?_, ?_, ?_, ?_, ?_, ?_, trivial⟩
    · intro x u hbu hd
      refine wpOp_step rfl fun K hK => ?_
      go_simp
      exact hK _ _ ⟨_, rfl, Below.refl _ _, fun d hd => by cases hd; exact rfl⟩
    · intro x u hbu hd
      have c0 := (H_hP.out.on hbu).cell 0
      have c1 := (H_hP.out.on hbu).cell 1
      have c2 := (H_hP.out.on hbu).cell 2
      have c3 := (H_hP.out.on hbu).cell 3
      have cl := (H_hP.out.on hbu).lt
      refine wpOp_step rfl fun K hK => ?_
      go_simp
      exact hK _ _ ⟨_, rfl, Below.refl _ _, fun d hd => by cases hd; exact rfl⟩
    · intro x u hbu hd
      have h45 : x 45 = .int .i64 f.o := hd 0 (by decide)
      have h46 : x 46 = .agg #[.int .u8 f.k, .int .u8 f.s, .int .u32 f.q, .int .u32 f.v] := hd 1 (by decide)
      refine wpOp_step rfl fun K hK => ?_
      simp only [h45, h46] at hK ⊢
      go_simp
      with_reducible refine (HOF.out _).mono ?_
      rintro e u' ⟨rfl, hb'⟩
      exact hK _ _ ⟨_, rfl, hb', fun d hd => by cases hd; exact rfl⟩
    · intro x u hbu hd
      have c0 := (H_hA.out.on hbu).cell 0
      have c1 := (H_hA.out.on hbu).cell 1
      have cl := (H_hA.out.on hbu).lt
      refine wpOp_step rfl fun K hK => ?_
      go_simp
      exact hK _ _ ⟨_, rfl, Below.refl _ _, fun d hd => by cases hd; exact rfl⟩
    · intro x u hbu hd
      have h47 : x 47 = .agg #[.int .i64 f.o, .int .u8 f.k, .int .u8 f.s, .int .u32 f.q, .int .u32 f.v] := hd 2 (by decide)
      have h48 : x 48 = .agg #[.bool a, .bool b] := hd 3 (by decide)
      refine wpOp_step rfl fun K hK => ?_
      simp only [h47, h48] at hK ⊢
      go_simp
      with_reducible refine (HSY.out _).mono ?_
      rintro e u' ⟨A, rfl, hl, hE, hb'⟩
      exact hK _ _ ⟨_, rfl, hb', fun d hd => by cases hd; exact ⟨A, rfl, hl, hE.mono (base' := w.heap.size) (Nat.le_trans H_hw.out.size hbu.size)⟩⟩
    · intro x u hbu hd
      have k49 : (Reg.Fact.symT M Y C w.heap.size : Reg.Fact).P (x 49) u := hd 4 (by decide)
      obtain ⟨A49, h49, hl49, hE49⟩ := k49
      refine wpOp_step rfl fun K hK => ?_
      simp only [h49] at hK ⊢
      go_simp
      exact hK _ _ ⟨_, rfl, Below.refl _ _, fun d hd => by cases hd; exact ⟨A49, rfl, hl49, hE49⟩⟩
    · intro x u hbu hd
      have k44 : (Reg.Fact.symT M Y C w.heap.size : Reg.Fact).P (x 44) u := hd 5 (by decide)
      obtain ⟨A44, h44, hl44, hE44⟩ := k44
      refine wpOp_step rfl fun K hK => ?_
      simp only [h44] at hK ⊢
      go_simp
      exact hK _ _ ⟨_, rfl, Below.refl _ _, fun d hd => by cases hd; exact ⟨A44, rfl, hl44, hE44⟩⟩
    · intro x u hbu hd
      have k44 : (Reg.Fact.symT M Y C w.heap.size : Reg.Fact).P (x 44) u := hd 5 (by decide)
      obtain ⟨A44, h44, hl44, hE44⟩ := k44
      refine wpOp_step rfl fun K hK => ?_
      simp only [h44] at hK ⊢
      go_simp
      exact hK _ _ ⟨_, rfl, Below.refl _ _, fun d hd => by cases hd; exact rfl⟩
    · intro x u hbu hd
      have k50 : (Reg.Fact.symS M Y w.heap.size : Reg.Fact).P (x 50) u := hd 6 (by decide)
      obtain ⟨A50, h50, hl50, hE50⟩ := k50
      refine wpOp_step rfl fun K hK => ?_
      simp only [h50] at hK ⊢
      go_simp
      exact hK _ _ ⟨_, rfl, Below.refl _ _, fun d hd => by cases hd; exact ⟨A50, rfl, hl50, hE50⟩⟩
    · intro x u hbu hd
      have h51 : x 51 = .int .i64 C := hd 7 (by decide)
      refine wpOp_step rfl fun K hK => ?_
      simp only [h51] at hK ⊢
      go_simp
      exact hK _ _ ⟨_, rfl, Below.refl _ _, fun d hd => by cases hd; exact rfl⟩
  · intro x u hbu hall
    have k14 : (Reg.Fact.symS M Y w.heap.size : Reg.Fact).P (x 14) u := hall 8 (by decide)
    have h15 : x 15 = .int .i64 C := hall 9 (by decide)
    obtain ⟨A5, h14, hl5, hE5⟩ := k14
    simp only [Reg.frame, Reg.over, Nat.reduceAdd, Nat.reduceBEq, Nat.reduceLeDiff, decide_true, decide_false, Bool.or_true, Bool.or_false, if_true, Bool.false_eq_true, if_false, Bool.and_true, Bool.and_false, h14, h15]
    have hP := H_hP.out.on hbu
    have hT := H_hT.out.on hbu
    have hF := H_hF.out.on hbu
    have hl2 := H_hl2.out.on hbu
    have hE2 := H_hE2.out.on hbu
    have hl3 := H_hl3.out.on hbu
    have hA := H_hA.out.on hbu
    have hB := H_hB.out.on hbu
    have hw := below_then H_hw.out hbu
    clear H_hP H_hT H_hF H_hl2 H_hE2 H_hl3 H_hA H_hB H_hw hall hbu
    have ce0 := hF.cell 0
    have ce1 := hF.cell 1
    have ce2 := hF.cell 2
    have ce3 := hF.cell 3
    have ce4 := hF.cell 4
    simp only [List.getElem?_toArray, List.getElem?_cons_zero, List.getElem?_cons_succ] at ce0 ce1 ce2 ce3 ce4
    have cel := hF.lt
    have de0 := hB.cell 0
    have de1 := hB.cell 1
    simp only [List.getElem?_toArray, List.getElem?_cons_zero, List.getElem?_cons_succ] at de0 de1
    have del := hB.lt
    go_wp2_with fail
    with_reducible refine (HRS.out _).mono ?_
    rintro e w6 ⟨A6, c6, rfl, hl6, hb⟩
    clear ce0 ce1 ce2 ce3 ce4 cel de0 de1 del
    replace hP := hP.on hb
    replace hT := hT.on hb
    replace hF := hF.on hb
    replace hl2 := hl2.on hb
    replace hE2 := hE2.on hb
    replace hl3 := hl3.on hb
    replace hA := hA.on hb
    replace hB := hB.on hb
    replace hl5 := hl5.on hb
    replace hE5 := hE5.on hb
    replace hw := below_then hw hb
    clear hb
    go_wp2_with fail
    have H_hP := Lib.hid hP
    have H_hT := Lib.hid hT
    have H_hF := Lib.hid hF
    have H_hl2 := Lib.hid hl2
    have H_hE2 := Lib.hid hE2
    have H_hl3 := Lib.hid hl3
    have H_hA := Lib.hid hA
    have H_hB := Lib.hid hB
    have H_hl5 := Lib.hid hl5
    have H_hE5 := Lib.hid hE5
    have H_hl6 := Lib.hid hl6
    have H_hw := Lib.hid hw
    clear hP hT hF hl2 hE2 hl3 hA hB hl5 hE5 hl6 hw
    refine Reg.wp_slots (fun t => decide (58 ≤ t) && decide (t ≤ 92)) (by kernel_rfl) (by kernel_rfl) (by kernel_rfl) (fun zz => (Reg.tbl [
      (58, .is (.int .i64 C)),
      (59, .is (.int .i64 C)),
      (60, .is (.bool false)),
      (61, .is (.bool false)),
      (62, .is (.int .i64 C)),
      (63, .is (.int .i64 C)),
      (64, .is (.bool false)),
      (65, .is (.bool false)),
      (66, .is (.bool false)),
      (67, .is (.slice A2 N N)),
      (68, .is (.slice A3 N c3)),
      (69, .is (.bool true)),
      (70, .is (.bool false)),
      (71, .is (.bool false)),
      (72, .is (.bool false)),
      (73, .is (.slice A5 M M)),
      (74, .is (.slice A6 M c6)),
      (75, .is (.bool true)),
      (76, .is (.bool false)),
      (77, .is (.bool false)),
      (78, .is (.bool false)),
      (79, .is (.agg #[.bool a, .bool b])),
      (80, .is (.bool (a && !b))),
      (81, .is (.agg #[.bool a, .bool b])),
      (82, .is (.bool (a && !b))),
      (83, .is (.bool false)),
      (84, .is (.bool false)),
      (85, .is (.bool false)),
      (86, .is (.agg #[.bool a, .bool b])),
      (87, .blk 77 .u8 2 (tailL a b) w6.heap.size),
      (88, .is (.agg #[.bool a, .bool b])),
      (89, .blk 77 .u8 2 (tailL a b) w6.heap.size),
      (90, .is (.bool true)),
      (91, .is (.bool false)),
      (92, .is (.bool false))] zz).P) (fun zz => (Reg.tbl _ zz).on) ?_ ?_
    · simp only [Reg.frame, Reg.over, Nat.reduceAdd, Nat.reduceLeDiff, decide_true, decide_false, if_true, Bool.false_eq_true, if_false, Bool.and_true, Bool.and_false]
      refine ⟨?_, ?_, ?_, ?_, ?_, ?_, ?_, ?_, ?_, ?_, ?_, ?_, ?_, ?_, ?_, ?_, ?_, ?_, ?_, ?_, ?_, ?_, ?_, ?_, ?_, ?_, ?_, ?_, ?_, ?_, ?_, ?_, ?_, ?_, ?_, trivial⟩
      · intro x u hbu hd
        refine wpOp_step rfl fun K hK => ?_
        go_simp
        exact hK _ _ ⟨_, rfl, Below.refl _ _, fun d hd => by cases hd; exact rfl⟩
      · intro x u hbu hd
        refine wpOp_step rfl fun K hK => ?_
        go_simp
        exact hK _ _ ⟨_, rfl, Below.refl _ _, fun d hd => by cases hd; exact rfl⟩
      · intro x u hbu hd
        have h58 : x 58 = .int .i64 C := hd 0 (by decide)
        have h59 : x 59 = .int .i64 C := hd 1 (by decide)
        refine wpOp_step rfl fun K hK => ?_
        simp only [h58, h59] at hK ⊢
        go_simp
        exact hK _ _ ⟨_, rfl, Below.refl _ _, fun d hd => by cases hd; exact congrArg Value.bool (by simp)⟩
      · intro x u hbu hd
        have h60 : x 60 = .bool false := hd 2 (by decide)
        refine wpOp_step rfl fun K hK => ?_
        simp only [h60] at hK ⊢
        go_simp
        exact hK _ _ ⟨_, rfl, Below.refl _ _, fun d hd => by cases hd; exact rfl⟩
      · intro x u hbu hd
        have h61 : x 61 = .bool false := hd 3 (by decide)
        refine wpOp_step rfl fun K hK => ?_
        simp only [h61] at hK ⊢
        go_simp
        exact hK _ _ ⟨_, rfl, Below.refl _ _, fun d hd => by cases hd; exact rfl⟩
      · intro x u hbu hd
        have h61 : x 61 = .bool false := hd 3 (by decide)
        refine wpOp_step rfl fun K hK => ?_
        simp only [h61] at hK ⊢
        go_simp
        exact hK _ _ ⟨_, rfl, Below.refl _ _, fun d hd => by cases hd; exact rfl⟩
      · intro x u hbu hd
        have h62 : x 62 = .int .i64 C := hd 4 (by decide)
        have h63 : x 63 = .int .i64 C := hd 5 (by decide)
        have h61 : x 61 = .bool false := hd 3 (by decide)
        refine wpOp_step rfl fun K hK => ?_
        simp only [h62, h63, h61] at hK ⊢
        go_simp
        exact hK _ _ ⟨_, rfl, Below.refl _ _, fun d hd => by cases hd; exact congrArg Value.bool (by simp)⟩
      · intro x u hbu hd
        have h61 : x 61 = .bool false := hd 3 (by decide)
        have h64 : x 64 = .bool false := hd 6 (by decide)
        refine wpOp_step rfl fun K hK => ?_
        simp only [h61, h64] at hK ⊢
        go_simp
        exact hK _ _ ⟨_, rfl, Below.refl _ _, fun d hd => by cases hd; exact rfl⟩
      · intro x u hbu hd
        have h65 : x 65 = .bool false := hd 7 (by decide)
        refine wpOp_step rfl fun K hK => ?_
        simp only [h65] at hK ⊢
        go_simp
        exact hK _ _ ⟨_, rfl, Below.refl _ _, fun d hd => by cases hd; exact rfl⟩
      · intro x u hbu hd
        have h66 : x 66 = .bool false := hd 8 (by decide)
        refine wpOp_step rfl fun K hK => ?_
        simp only [h66] at hK ⊢
        go_simp
        exact hK _ _ ⟨_, rfl, Below.refl _ _, fun d hd => by cases hd; exact rfl⟩
      · intro x u hbu hd
        have h66 : x 66 = .bool false := hd 8 (by decide)
        refine wpOp_step rfl fun K hK => ?_
        simp only [h66] at hK ⊢
        go_simp
        exact hK _ _ ⟨_, rfl, Below.refl _ _, fun d hd => by cases hd; exact rfl⟩
      · intro x u hbu hd
        have h67 : x 67 = .slice A2 N N := hd 9 (by decide)
        have h68 : x 68 = .slice A3 N c3 := hd 10 (by decide)
        have h66 : x 66 = .bool false := hd 8 (by decide)
        refine wpOp_step rfl fun K hK => ?_
        simp only [h67, h68, h66] at hK ⊢
        go_simp
        with_reducible refine (HSB.out _ A2 A3 c3 (H_hl2.out.on hbu) (H_hl3.out.on hbu)).mono ?_
        rintro e u' ⟨rfl, rfl⟩
        exact hK _ _ ⟨_, rfl, Below.refl _ _, fun d hd => by cases hd; exact rfl⟩
      · intro x u hbu hd
        have h69 : x 69 = .bool true := hd 11 (by decide)
        have h66 : x 66 = .bool false := hd 8 (by decide)
        refine wpOp_step rfl fun K hK => ?_
        simp only [h69, h66] at hK ⊢
        go_simp
        exact hK _ _ ⟨_, rfl, Below.refl _ _, fun d hd => by cases hd; exact rfl⟩
      · intro x u hbu hd
        have h66 : x 66 = .bool false := hd 8 (by decide)
        have h70 : x 70 = .bool false := hd 12 (by decide)
        refine wpOp_step rfl fun K hK => ?_
        simp only [h66, h70] at hK ⊢
        go_simp
        exact hK _ _ ⟨_, rfl, Below.refl _ _, fun d hd => by cases hd; exact rfl⟩
      · intro x u hbu hd
        have h71 : x 71 = .bool false := hd 13 (by decide)
        refine wpOp_step rfl fun K hK => ?_
        simp only [h71] at hK ⊢
        go_simp
        exact hK _ _ ⟨_, rfl, Below.refl _ _, fun d hd => by cases hd; exact rfl⟩
      · intro x u hbu hd
        have h72 : x 72 = .bool false := hd 14 (by decide)
        refine wpOp_step rfl fun K hK => ?_
        simp only [h72] at hK ⊢
        go_simp
        exact hK _ _ ⟨_, rfl, Below.refl _ _, fun d hd => by cases hd; exact rfl⟩
      · intro x u hbu hd
        have h72 : x 72 = .bool false := hd 14 (by decide)
        refine wpOp_step rfl fun K hK => ?_
        simp only [h72] at hK ⊢
        go_simp
        exact hK _ _ ⟨_, rfl, Below.refl _ _, fun d hd => by cases hd; exact rfl⟩
      · intro x u hbu hd
        have h73 : x 73 = .slice A5 M M := hd 15 (by decide)
        have h74 : x 74 = .slice A6 M c6 := hd 16 (by decide)
        have h72 : x 72 = .bool false := hd 14 (by decide)
        refine wpOp_step rfl fun K hK => ?_
        simp only [h73, h74, h72] at hK ⊢
        go_simp
        with_reducible refine (HSS.out _ A5 A6 c6 (H_hl5.out.on hbu) (H_hl6.out.on hbu)).mono ?_
        rintro e u' ⟨rfl, hb'⟩
        exact hK _ _ ⟨_, rfl, hb', fun d hd => by cases hd; exact rfl⟩
      · intro x u hbu hd
        have h75 : x 75 = .bool true := hd 17 (by decide)
        have h72 : x 72 = .bool false := hd 14 (by decide)
        refine wpOp_step rfl fun K hK => ?_
        simp only [h75, h72] at hK ⊢
        go_simp
        exact hK _ _ ⟨_, rfl, Below.refl _ _, fun d hd => by cases hd; exact rfl⟩
      · intro x u hbu hd
        have h72 : x 72 = .bool false := hd 14 (by decide)
        have h76 : x 76 = .bool false := hd 18 (by decide)
        refine wpOp_step rfl fun K hK => ?_
        simp only [h72, h76] at hK ⊢
        go_simp
        exact hK _ _ ⟨_, rfl, Below.refl _ _, fun d hd => by cases hd; exact rfl⟩
      · intro x u hbu hd
        have h77 : x 77 = .bool false := hd 19 (by decide)
        refine wpOp_step rfl fun K hK => ?_
        simp only [h77] at hK ⊢
        go_simp
        exact hK _ _ ⟨_, rfl, Below.refl _ _, fun d hd => by cases hd; exact rfl⟩
      · intro x u hbu hd
        have h78 : x 78 = .bool false := hd 20 (by decide)
        have c0 := (H_hA.out.on hbu).cell 0
        have c1 := (H_hA.out.on hbu).cell 1
        have cl := (H_hA.out.on hbu).lt
        refine wpOp_step rfl fun K hK => ?_
        simp only [h78] at hK ⊢
        go_simp
        exact hK _ _ ⟨_, rfl, Below.refl _ _, fun d hd => by cases hd; exact rfl⟩
      · intro x u hbu hd
        have h79 : x 79 = .agg #[.bool a, .bool b] := hd 21 (by decide)
        have h78 : x 78 = .bool false := hd 20 (by decide)
        refine wpOp_step rfl fun K hK => ?_
        simp only [h79, h78] at hK ⊢
        go_simp
        with_reducible refine (tgood_any a b _).mono ?_
        rintro e u' ⟨rfl, hb'⟩
        exact hK _ _ ⟨_, rfl, hb', fun d hd => by cases hd; exact rfl⟩
      · intro x u hbu hd
        have h78 : x 78 = .bool false := hd 20 (by decide)
        have c0 := (H_hB.out.on hbu).cell 0
        have c1 := (H_hB.out.on hbu).cell 1
        have cl := (H_hB.out.on hbu).lt
        refine wpOp_step rfl fun K hK => ?_
        simp only [h78] at hK ⊢
        go_simp
        exact hK _ _ ⟨_, rfl, Below.refl _ _, fun d hd => by cases hd; exact rfl⟩
      · intro x u hbu hd
        have h81 : x 81 = .agg #[.bool a, .bool b] := hd 23 (by decide)
        have h78 : x 78 = .bool false := hd 20 (by decide)
        refine wpOp_step rfl fun K hK => ?_
        simp only [h81, h78] at hK ⊢
        go_simp
        with_reducible refine (refGood_any a b _).mono ?_
        rintro e u' ⟨rfl, hb'⟩
        exact hK _ _ ⟨_, rfl, hb', fun d hd => by cases hd; exact rfl⟩
      · intro x u hbu hd
        have h80 : x 80 = .bool (a && !b) := hd 22 (by decide)
        have h82 : x 82 = .bool (a && !b) := hd 24 (by decide)
        have h78 : x 78 = .bool false := hd 20 (by decide)
        refine wpOp_step rfl fun K hK => ?_
        simp only [h80, h82, h78] at hK ⊢
        go_simp
        exact hK _ _ ⟨_, rfl, Below.refl _ _, fun d hd => by cases hd; exact congrArg Value.bool (by simp)⟩
      · intro x u hbu hd
        have h78 : x 78 = .bool false := hd 20 (by decide)
        have h83 : x 83 = .bool false := hd 25 (by decide)
        refine wpOp_step rfl fun K hK => ?_
        simp only [h78, h83] at hK ⊢
        go_simp
        exact hK _ _ ⟨_, rfl, Below.refl _ _, fun d hd => by cases hd; exact rfl⟩
      · intro x u hbu hd
        have h84 : x 84 = .bool false := hd 26 (by decide)
        refine wpOp_step rfl fun K hK => ?_
        simp only [h84] at hK ⊢
        go_simp
        exact hK _ _ ⟨_, rfl, Below.refl _ _, fun d hd => by cases hd; exact rfl⟩
      · intro x u hbu hd
        have h85 : x 85 = .bool false := hd 27 (by decide)
        have c0 := (H_hA.out.on hbu).cell 0
        have c1 := (H_hA.out.on hbu).cell 1
        have cl := (H_hA.out.on hbu).lt
        refine wpOp_step rfl fun K hK => ?_
        simp only [h85] at hK ⊢
        go_simp
        exact hK _ _ ⟨_, rfl, Below.refl _ _, fun d hd => by cases hd; exact rfl⟩
      · intro x u hbu hd
        have h86 : x 86 = .agg #[.bool a, .bool b] := hd 28 (by decide)
        have h85 : x 85 = .bool false := hd 27 (by decide)
        refine wpOp_step rfl fun K hK => ?_
        simp only [h86, h85] at hK ⊢
        go_simp
        with_reducible refine (tsyms_any a b _).mono ?_
        rintro e u' ⟨g, rfl, hg, hB, hb'⟩
        exact hK _ _ ⟨_, rfl, hb', fun d hd => by cases hd; exact ⟨g, rfl, Nat.le_trans hbu.size hg, hB⟩⟩
      · intro x u hbu hd
        have h85 : x 85 = .bool false := hd 27 (by decide)
        have c0 := (H_hB.out.on hbu).cell 0
        have c1 := (H_hB.out.on hbu).cell 1
        have cl := (H_hB.out.on hbu).lt
        refine wpOp_step rfl fun K hK => ?_
        simp only [h85] at hK ⊢
        go_simp
        exact hK _ _ ⟨_, rfl, Below.refl _ _, fun d hd => by cases hd; exact rfl⟩
      · intro x u hbu hd
        have h88 : x 88 = .agg #[.bool a, .bool b] := hd 30 (by decide)
        have h85 : x 85 = .bool false := hd 27 (by decide)
        refine wpOp_step rfl fun K hK => ?_
        simp only [h88, h85] at hK ⊢
        go_simp
        with_reducible refine (refTail_any a b _).mono ?_
        rintro e u' ⟨g, rfl, hg, hB, hb'⟩
        exact hK _ _ ⟨_, rfl, hb', fun d hd => by cases hd; exact ⟨g, rfl, Nat.le_trans hbu.size hg, hB⟩⟩
      · intro x u hbu hd
        have k87 : (Reg.Fact.blk 77 .u8 2 (tailL a b) w6.heap.size : Reg.Fact).P (x 87) u := hd 29 (by decide)
        obtain ⟨g87, h87, hg87, hB87⟩ := k87
        have k89 : (Reg.Fact.blk 77 .u8 2 (tailL a b) w6.heap.size : Reg.Fact).P (x 89) u := hd 31 (by decide)
        obtain ⟨g89, h89, hg89, hB89⟩ := k89
        have h85 : x 85 = .bool false := hd 27 (by decide)
        refine wpOp_step rfl fun K hK => ?_
        simp only [h87, h89, h85] at hK ⊢
        go_simp
        with_reducible refine (HS2.out _ _ _ (hB87.lies (n := 2) rfl) (hB89.lies (n := 2) rfl)).mono ?_
        rintro e u' ⟨rfl, hb'⟩
        exact hK _ _ ⟨_, rfl, hb', fun d hd => by cases hd; exact rfl⟩
      · intro x u hbu hd
        have h90 : x 90 = .bool true := hd 32 (by decide)
        have h85 : x 85 = .bool false := hd 27 (by decide)
        refine wpOp_step rfl fun K hK => ?_
        simp only [h90, h85] at hK ⊢
        go_simp
        exact hK _ _ ⟨_, rfl, Below.refl _ _, fun d hd => by cases hd; exact rfl⟩
      · intro x u hbu hd
        have h85 : x 85 = .bool false := hd 27 (by decide)
        have h91 : x 91 = .bool false := hd 33 (by decide)
        refine wpOp_step rfl fun K hK => ?_
        simp only [h85, h91] at hK ⊢
        go_simp
        exact hK _ _ ⟨_, rfl, Below.refl _ _, fun d hd => by cases hd; exact rfl⟩
    · intro x u hbu hall
      have h92 : x 92 = .bool false := hall 34 (by decide)
      simp only [Reg.frame, Reg.over, Nat.reduceAdd, Nat.reduceLeDiff, decide_true, decide_false, if_true, Bool.false_eq_true, if_false, Bool.and_true, Bool.and_false, h92]
      have hP := H_hP.out.on hbu
      have hT := H_hT.out.on hbu
      have hF := H_hF.out.on hbu
      have hl2 := H_hl2.out.on hbu
      have hE2 := H_hE2.out.on hbu
      have hl3 := H_hl3.out.on hbu
      have hA := H_hA.out.on hbu
      have hB := H_hB.out.on hbu
      have hl5 := H_hl5.out.on hbu
      have hE5 := H_hE5.out.on hbu
      have hl6 := H_hl6.out.on hbu
      have hw := below_then H_hw.out hbu
      clear H_hP H_hT H_hF H_hl2 H_hE2 H_hl3 H_hA H_hB H_hl5 H_hE5 H_hl6 H_hw hall hbu HOF HPT HRP HSY HRS
      clear hP hT hF hl2 hl3 hl6 hB
      go_wp2_with fail
      have hk := BookIs.empty (Blk.new u 54 #[.slice none 0 0, .slice none 0 0, .slice none 0 0, .bool false]) hw.size
      replace hE2 := hE2.on (below_al (Below.refl _ _) (.cells #[.slice none 0 0, .slice none 0 0, .slice none 0 0, .bool false] 54))
      replace hA := hA.on (below_al (Below.refl _ _) (.cells #[.slice none 0 0, .slice none 0 0, .slice none 0 0, .bool false] 54))
      replace hl5 := hl5.on (below_al (Below.refl _ _) (.cells #[.slice none 0 0, .slice none 0 0, .slice none 0 0, .bool false] 54))
      replace hE5 := hE5.on (below_al (Below.refl _ _) (.cells #[.slice none 0 0, .slice none 0 0, .slice none 0 0, .bool false] 54))
      replace hw := below_al hw (.cells #[.slice none 0 0, .slice none 0 0, .slice none 0 0, .bool false] 54)
      have HFAR := Lib.hid (show ∀ h0 : 0 < M, ∃ g cs, A5 = some ⟨g, 0, none⟩ ∧ Blk _ g 77 cs from fun h0 => by
        obtain ⟨g, cs, e1, _, hBq, _⟩ := hE5 h0
        exact ⟨g, cs, e1, hBq⟩)
      clear hl5
      with_reducible refine (bookBytes _ _ _ _ _ _ _ _ _ _ _ hk (by simp)).mono ?_
      rintro e w7 ⟨rfl, ⟨v7, hk'⟩, hbb, hkk⟩
      clear hk
      have hk := hk'
      clear hk'
      replace hE2 := hE2.kept hkk (by decide)
      replace hA := hkk _ _ _ (by decide) hA
      replace hE5 := hE5.kept hkk (by decide)
      replace hw := hw.trans hbb
      clear hkk hbb
      simp only [List.nil_append] at hk
      go_wp2_with fail
      with_reducible refine (bookSyms _ _ _ _ _ _ _ _ _ _ _ hk (by simp)).mono ?_
      rintro e w8 ⟨rfl, ⟨v8, hk'⟩, hbb, hkk⟩
      clear hk
      have hk := hk'
      clear hk'
      replace hE2 := hE2.kept hkk (by decide)
      replace hA := hkk _ _ _ (by decide) hA
      replace hE5 := hE5.kept hkk (by decide)
      replace hw := hw.trans hbb
      clear hkk hbb
      simp only [List.nil_append] at hk
      have de0 := hA.cell 0
      have de1 := hA.cell 1
      simp only [List.getElem?_toArray, List.getElem?_cons_zero, List.getElem?_cons_succ] at de0 de1
      have del := hA.lt
      go_wp2_with fail
      with_reducible refine (tsyms_any a b _).mono ?_
      rintro e w9 ⟨g9, rfl, hg9, hB9, hb⟩
      clear de0 de1 del
      have hne : 0 < M → (0 : Nat) < 2 → A5 ≠ some ⟨g9, 0, none⟩ := fun h0 _ e9 => by
        obtain ⟨g, cs, e1, _, hBq, _⟩ := hE5 h0
        have e1' : A5 = some ⟨g, 0, none⟩ := e1
        rw [e1'] at e9
        injection e9 with e9
        injection e9 with e9
        have := hBq.lt
        omega
      have hE9 := hB9.ent (n := 2) rfl (Nat.le_trans hw.size hg9)
      replace hk := hk.below hb
      clear hA
      replace hE2 := hE2.on hb
      replace hE5 := hE5.on hb
      replace hw := below_then hw hb
      clear hb
      go_wp2_with fail
      with_reducible refine (bookSyms _ _ _ _ _ _ _ _ _ _ _ hk (by simp)).mono ?_
      rintro e w10 ⟨rfl, ⟨v10, hk'⟩, hbb, hkk⟩
      clear hk
      have hk := hk'
      clear hk'
      replace hE2 := hE2.kept hkk (by decide)
      replace hE5 := hE5.kept hkk (by decide)
      replace hE9 := hE9.kept hkk (by decide)
      replace hw := hw.trans hbb
      clear hkk hbb
      simp only [List.nil_append, List.cons_append] at hk
      have hentb : Ents _ 5 w.heap.size [(A2, N)] := ents_cons hE2 ents0
      have hents : Ents _ 77 w.heap.size [(A5, M), (some ⟨g9, 0, none⟩, 2)] := ents_cons hE5 (ents_cons hE9 ents0)
      have hdb : Dist [(A2, N)] := dist_cons (fun _ h => by cases h) dist0
      have hds : Dist [(A5, M), (some ⟨g9, 0, none⟩, 2)] := dist2 hne
      go_wp2_with fail
      with_reducible refine (apart_any _ _ _ _ _ _ _ _ _ hk (by simp) (by simp) (by simp) (by simp; omega) (by simp) (by simp; omega) hentb ents0 hents hdb dist0 hds).mono ?_
      rintro e w11 ⟨rfl, hbb⟩
      replace hw := hw.trans hbb
      clear hk hbb hentb hents hdb hds hE2 hE5 hE9
      go_wp2_with fail
      with_reducible refine (frLives_any _).mono ?_
      rintro e w12 ⟨rfl, hb⟩
      go_wp2_with fail
      go_ret
      exact ⟨rfl, below_then hw hb⟩
theorem fit_of {o k s q z : Int} (h : (Lit.int .u8 k).wf = true ∧ (Lit.int .u8 s).wf = true ∧ (Lit.int .u32 q).wf = true ∧ (Lit.int .u32 z).wf = true) : (Fr.mk o k s q z).Fit := by
  obtain ⟨h1, h2, h3, h4⟩ := h
  have b1 := bounds_u8 h1
  have b2 := bounds_u8 h2
  have b3 := bounds_u32 h3
  have b4 := bounds_u32 h4
  constructor <;> simp only <;> omega
theorem framesPut.framesPut_walk (o k s q z : Int) (a b : Bool) (w : World) (_ : (Lit.int .i64 o).wf = true) (h : (Lit.int .u8 k).wf = true ∧ (Lit.int .u8 s).wf = true ∧ (Lit.int .u32 q).wf = true ∧ (Lit.int .u32 z).wf = true) :
    Calls Try.prog 3 #[.int .i64 o, .agg #[.int .u8 k, .int .u8 s, .int .u32 q, .int .u32 z], .agg #[.bool a, .bool b]] w fun e w' => e = .returned (.bool true) ∧ Below w.heap.size w w' :=
  put_walk ⟨o, k, s, q, z⟩ a b w (fit_of h)
end Go.Proofs.Ytkjdlcobidglcaa
