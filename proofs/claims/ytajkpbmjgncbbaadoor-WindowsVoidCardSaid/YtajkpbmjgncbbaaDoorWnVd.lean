/-
  The law WindowsVoid, walked: without a net there is no window, no guard, and nothing is over; an empty window is never open: true; nothing that was there has turned. Condition: both tables are as the program's text lays them.
-/
import Derived.Test.YtajkpbmjgncbbaaDoorWn4
import Derived.Test.YtajkpbmjgncbbaaDoorWnZ
namespace Go.Proofs.YtajkpbmjgncbbaaDoor
open Go.RowKit Rg
set_option linter.unusedVariables false

theorem Blk.newAt {w : World} {t : TypeId} {cs : Array Value} {g : Nat} (hg : g = w.heap.size) : Blk (w.alloc (.cells cs t)) g t cs := by subst hg; exact Blk.new w t cs
theorem elemNets : Tryd.prog.underlying 55 = some (.slice (Tryd.prog.elem 55)) := by kernel_rfl
theorem sizeNets (w : World) : (sizeOf (Tryd.prog.elem 55)).run Tryd.prog w = .ok 1 w := by kernel_rfl
theorem idxNets {A : Option Addr} {n : Nat} (c : Nat) {k b off : Nat} (hA : A = some ⟨b, off, none⟩) (hk : k < n) (w : World) :
    (Instr.indexAt 55 (.slice A n c) (.int .i64 (k : Int))).run Tryd.prog w = .ok (.pointer (some ⟨b, off + k, none⟩)) w := by
  subst hA
  rw [run_indexAt_slice (h := elemNets), if_pos (by omega), sizeNets]
  simp [Result.andThen, Addr.add_lit]
theorem gu_nil (d f : Int) : guM 0 d f = -1 := by rw [guM, step_no]; exact bfalse fun h => by have := ex1.1 h; omega

set_option maxRecDepth 100000 in
set_option maxHeartbeats 4000000 in
theorem windowsVoid_walk (x0 x1 x2 x3 : Int) (w : World) (hw : Laid2 w) :
    Calls Tryd.prog 4 #[.agg #[.int .i64 x0, .int .i64 x1, .int .i64 x2, .int .i64 x3]] w fun e w' => e = .returned (.bool true) ∧ Below w.heap.size w w' := by
  have HW := Lib.hid hw
  have q1 := wn_neq 0 0 0 0 0 0 0 0
  simp only [beq_self_eq_true, Bool.and_self, Bool.not_true] at q1
  obtain ⟨d, hd⟩ : ∃ d, d = IntKind.u8.wrap x0 := ⟨_, rfl⟩
  have hdb : 0 ≤ d ∧ d ≤ 255 := by rw [hd, IntKind.wrap_u8]; omega
  have HD0 := Lib.hid hdb.1
  have HD1 := Lib.hid hdb.2
  have hdw : IntKind.u8.wrap x0 = d := hd.symm
  have HOF := Lib.hid (of_nil [] d x1 x2).1
  have HOE := Lib.hid (of_nil [] d x1 x2).2
  have HGA := Lib.hid (gu_nil 0 (atM [] x1))
  have HGB := Lib.hid (gu_nil 1 (atM [] x1))
  have HOV : Hid (ovM 0 = 0) := Lib.hid rfl
  have HFZ : Hid (WnFit ⟨0, 0, 0, 0⟩) := Lib.hid ⟨by decide, by decide, by decide, by decide⟩
  have HOB : Hid (opB ⟨0, 0, 0, 0⟩ x3 = false) := Lib.hid (decide_eq_false (by simp only; omega))
  have HOI : Hid (opI ⟨0, 0, 0, 0⟩ x3 = 0) := Lib.hid (by rw [opI, HOB.out]; rfl)
  have HPS : Hid (passM ⟨0, 0, 0, 0⟩ x3 2 = 0) := Lib.hid (by rw [passM, HOB.out]; rfl)
  clear hw hd hdb
  go_enter Tryd.func4, Tryd.ntmps4
  go_wp2_with fail
  go_loopw [5] (fun i wr => ∃ k : Nat, k ≤ 2 ∧ i = .int .i64 k ∧ Blk wr w.heap.size 26 #[.int .i64 x0, .int .i64 x1, .int .i64 x2, .int .i64 x3] ∧ Blk wr (w.heap.size + 1) 54 #[.int .i64 zeroCf.N, .slice zeroCf.pA zeroCf.pn zeroCf.pc, .slice zeroCf.sA zeroCf.sn zeroCf.sc, .int .i64 zeroCf.L, .slice zeroCf.bA zeroCf.bn zeroCf.bc, .slice zeroCf.tA zeroCf.tn zeroCf.tc, .int .i64 zeroCf.M, .int .i64 zeroCf.G, .int .i64 zeroCf.F, .int .i64 zeroCf.N, .slice zeroCf.pA zeroCf.pn zeroCf.pc, .slice zeroCf.sA zeroCf.sn zeroCf.sc, .int .i64 zeroCf.L, .slice zeroCf.bA zeroCf.bn zeroCf.bc, .slice zeroCf.tA zeroCf.tn zeroCf.tc, .int .i64 zeroCf.M, .int .i64 zeroCf.G, .int .i64 zeroCf.F] ∧ Blk wr (w.heap.size + 2) 27 #[.pointer none, .pointer (some ⟨w.heap.size + 1, 0, none⟩)] ∧ Below w.heap.size w wr) (fun i _ => 2 - (intOf i).toNat)
  case atStart => exact ⟨0, by omega, rfl, ((Blk.new w _ _).alloc _).alloc _, (Blk.newAt (by simp)).alloc _, Blk.newAt (by simp), below_al (below_al (below_al (Below.refl _ _) _) _) _⟩
  case round =>
    obtain ⟨k, hk, rfl, hX, hN, hV, hb⟩ := hrel
    by_cases hlt : k < 2
    · obtain ⟨v, hv, hn⟩ : ∃ v, wr.cell? ⟨w.heap.size + 2, k, none⟩ = some v ∧ NetP wr v 0 [] := by
        rcases Nat.lt_succ_iff_lt_or_eq.1 hlt with q | q
        · obtain rfl : k = 0 := by omega
          exact ⟨_, hV.cell 0, zeroCf, .inl ⟨rfl, rfl⟩, rfl, rfl, .inl rfl⟩
        · subst q
          exact ⟨_, hV.cell 1, zeroCf, .inr ⟨_, zeroCf, rfl, hN, zero_in wr⟩, rfl, rfl, .inl rfl⟩
      have hvl : w.heap.size + 2 < wr.heap.size := hV.lt
      have hix := fun W => idxNets (n := 2) 2 (b := w.heap.size + 2) (off := 0) rfl hlt W
      simp only [Nat.zero_add] at hix
      have HVC := Lib.hid (show ∀ u, Below wr.heap.size wr u → u.cell? ⟨w.heap.size + 2, k, none⟩ = some v from fun u hu => (hu.cell hvl).trans hv)
      have HN1 := Lib.hid hn
      have HXL := Lib.hid hX.lt
      have HX1 := Lib.hid hX
      have HV1 := Lib.hid hV
      have HNB := Lib.hid hN
      have HB1 := Lib.hid hb
      have HBS := Lib.hid (Nat.le_refl wr.heap.size)
      clear hn hX hV hN hvl hb hv
      have hkd : decide ((k : Int) < 2) = true := decide_eq_true (by omega)
      go_wp2_with fail
      refine Reg.wp_slots2 (fun t => t == 6 || t == 7 || (decide (17 ≤ t) && decide (t ≤ 31))) (KZ wr.heap.size) (KZ.drew _ trivial) KZ.trans (by kernel_rfl) (by kernel_rfl) (by kernel_rfl) (fun zz => (Reg.tblK [
        (18, .is (.slice (some ⟨w.heap.size + 2, 0, none⟩) 2 2)),
        (19, .is (.int .i64 k)),
        (20, .is (.pointer (some ⟨w.heap.size + 2, k, none⟩))),
        (21, .is (v)),
        (22, .is (.pointer (some ⟨w.heap.size, 0, none⟩))),
        (23, .is (.int .i64 x0)),
        (24, .is (.int .u8 d)),
        (25, .is (.pointer (some ⟨w.heap.size, 1, none⟩))),
        (26, .is (.int .i64 x1)),
        (27, .is (.pointer (some ⟨w.heap.size, 2, none⟩))),
        (28, .is (.int .i64 x2)),
        (29, .is (.tuple #[.agg #[.int .u8 0, .int .i64 0, .int .i64 0, .int .i64 0], .int .i64 2])),
        (17, .is (.tuple #[.agg #[.int .u8 0, .int .i64 0, .int .i64 0, .int .i64 0], .int .i64 2])),
        (30, .is (.agg #[.int .u8 0, .int .i64 0, .int .i64 0, .int .i64 0])),
        (31, .is (.int .i64 2)),
        (6, .zw),
        (7, .is (.int .i64 2))] zz).P) (fun zz => (Reg.tblK _ zz).on) (fun zz => (Reg.memK [] zz).P) (fun zz => (Reg.memK _ zz).on) ?_ ?_
      · simp only [Reg.frame, Reg.over, Nat.reduceAdd, Nat.reduceBEq, Nat.reduceLeDiff, decide_true, decide_false, Bool.or_true, Bool.or_false, if_true, Bool.false_eq_true, if_false, Bool.and_true, Bool.and_false]
        refine ⟨?_, ?_, ?_, ?_, ?_, ?_, ?_, ?_, ?_, ?_, ?_, ?_, ?_, ?_, ?_, ?_, ?_, ?_, trivial⟩
        · intro x u hku hd
          refine wpOp_step rfl fun KK hK => ?_
          go_simp
          exact hK _ _ ⟨_, rfl, KZ.refl _, fun d hd => by cases hd; exact rfl, fun h => by cases h⟩
        · intro x u hku hd
          refine wpOp_step rfl fun KK hK => ?_
          go_simp
          exact hK _ _ ⟨_, rfl, KZ.refl _, fun d hd => by cases hd; exact rfl, fun h => by cases h⟩
        · intro x u hku hd
          have h18 : x 18 = .slice (some ⟨w.heap.size + 2, 0, none⟩) 2 2 := hd 0 (by decide)
          have h19 : x 19 = .int .i64 k := hd 1 (by decide)
          refine wpOp_step rfl fun KK hK => ?_
          simp only [h18, h19] at hK ⊢
          go_simp
          exact hK _ _ ⟨_, rfl, KZ.refl _, fun d hd => by cases hd; exact rfl, fun h => by cases h⟩
        · intro x u hku hd
          have h20 : x 20 = .pointer (some ⟨w.heap.size + 2, k, none⟩) := hd 2 (by decide)
          have hv := HVC.out _ hku.low
          refine wpOp_step rfl fun KK hK => ?_
          simp only [h20] at hK ⊢
          go_simp
          exact hK _ _ ⟨_, rfl, KZ.refl _, fun d hd => by cases hd; exact rfl, fun h => by cases h⟩
        · intro x u hku hd
          refine wpOp_step rfl fun KK hK => ?_
          go_simp
          exact hK _ _ ⟨_, rfl, KZ.refl _, fun d hd => by cases hd; exact rfl, fun h => by cases h⟩
        · intro x u hku hd
          have h22 : x 22 = .pointer (some ⟨w.heap.size, 0, none⟩) := hd 4 (by decide)
          have xc := ((HX1.out.below hku.low HXL.out).cell 0).trans rfl
          have xl := (HX1.out.below hku.low HXL.out).lt
          refine wpOp_step rfl fun KK hK => ?_
          simp only [h22] at hK ⊢
          go_simp
          exact hK _ _ ⟨_, rfl, KZ.refl _, fun d hd => by cases hd; exact rfl, fun h => by cases h⟩
        · intro x u hku hd
          have h23 : x 23 = .int .i64 x0 := hd 5 (by decide)
          refine wpOp_step rfl fun KK hK => ?_
          simp only [h23] at hK ⊢
          go_simp
          exact hK _ _ ⟨_, rfl, KZ.refl _, fun d hd => by cases hd; exact rfl, fun h => by cases h⟩
        · intro x u hku hd
          refine wpOp_step rfl fun KK hK => ?_
          go_simp
          exact hK _ _ ⟨_, rfl, KZ.refl _, fun d hd => by cases hd; exact rfl, fun h => by cases h⟩
        · intro x u hku hd
          have h25 : x 25 = .pointer (some ⟨w.heap.size, 1, none⟩) := hd 7 (by decide)
          have xc := ((HX1.out.below hku.low HXL.out).cell 1).trans rfl
          have xl := (HX1.out.below hku.low HXL.out).lt
          refine wpOp_step rfl fun KK hK => ?_
          simp only [h25] at hK ⊢
          go_simp
          exact hK _ _ ⟨_, rfl, KZ.refl _, fun d hd => by cases hd; exact rfl, fun h => by cases h⟩
        · intro x u hku hd
          refine wpOp_step rfl fun KK hK => ?_
          go_simp
          exact hK _ _ ⟨_, rfl, KZ.refl _, fun d hd => by cases hd; exact rfl, fun h => by cases h⟩
        · intro x u hku hd
          have h27 : x 27 = .pointer (some ⟨w.heap.size, 2, none⟩) := hd 9 (by decide)
          have xc := ((HX1.out.below hku.low HXL.out).cell 2).trans rfl
          have xl := (HX1.out.below hku.low HXL.out).lt
          refine wpOp_step rfl fun KK hK => ?_
          simp only [h27] at hK ⊢
          go_simp
          exact hK _ _ ⟨_, rfl, KZ.refl _, fun d hd => by cases hd; exact rfl, fun h => by cases h⟩
        · intro x u hku hd
          have h21 : x 21 = v := hd 3 (by decide)
          have h24 : x 24 = .int .u8 d := hd 6 (by decide)
          have h26 : x 26 = .int .i64 x1 := hd 8 (by decide)
          have h28 : x 28 = .int .i64 x2 := hd 10 (by decide)
          refine wpOp_step rfl fun KK hK => ?_
          simp only [h21, h24, h26, h28] at hK ⊢
          go_simp
          with_reducible refine (winOf_is v 0 [] d x1 x2 wn0 HOF.out 2 HOE.out _ (HN1.out.on hku.low) ((HW.out.on HB1.out).on hku.low) HD0.out HD1.out).mono ?_
          rintro e u' ⟨rfl, hb'⟩
          exact hK _ _ ⟨_, rfl, KZ.grow (Nat.le_trans HBS.out hku.size) hb', fun d hd => by cases hd; exact rfl, fun h => by cases h⟩
        · intro x u hku hd
          have h29 : x 29 = .tuple #[.agg #[.int .u8 0, .int .i64 0, .int .i64 0, .int .i64 0], .int .i64 2] := hd 11 (by decide)
          refine wpOp_step rfl fun KK hK => ?_
          simp only [h29] at hK ⊢
          go_simp
          exact hK _ _ ⟨_, rfl, KZ.refl _, fun d hd => by cases hd; exact rfl, fun h => by cases h⟩
        · intro x u hku hd
          have h17 : x 17 = .tuple #[.agg #[.int .u8 0, .int .i64 0, .int .i64 0, .int .i64 0], .int .i64 2] := hd 12 (by decide)
          refine wpOp_step rfl fun KK hK => ?_
          simp only [h17] at hK ⊢
          go_simp
          exact hK _ _ ⟨_, rfl, KZ.refl _, fun d hd => by cases hd; exact rfl, fun h => by cases h⟩
        · intro x u hku hd
          have h17 : x 17 = .tuple #[.agg #[.int .u8 0, .int .i64 0, .int .i64 0, .int .i64 0], .int .i64 2] := hd 12 (by decide)
          refine wpOp_step rfl fun KK hK => ?_
          simp only [h17] at hK ⊢
          go_simp
          exact hK _ _ ⟨_, rfl, KZ.refl _, fun d hd => by cases hd; exact rfl, fun h => by cases h⟩
        · intro x u hku hd
          refine wpOp_step rfl fun KK hK => ?_
          go_simp
          exact hK _ _ ⟨_, rfl, KZ.grow (Nat.le_trans HBS.out hku.size) (below_al (Below.refl _ _) _), fun d hd => by cases hd; exact ⟨u.heap.size, rfl, Nat.le_trans HBS.out hku.size, Blk.new u _ _⟩, fun h => by cases h⟩
        · intro x u hku hd
          have k6 : (Reg.FactK.zw : Reg.FactK (KZ wr.heap.size)).P (x 6) u := hd 15 (by decide)
          obtain ⟨g6, h6, hg6, hB6⟩ := k6
          have h30 : x 30 = .agg #[.int .u8 0, .int .i64 0, .int .i64 0, .int .i64 0] := hd 13 (by decide)
          have z0 := (hB6.cell 0).trans rfl
          have z1 := (hB6.cell 1).trans rfl
          have z2 := (hB6.cell 2).trans rfl
          have z3 := (hB6.cell 3).trans rfl
          have zl := hB6.lt
          have zf := hB6.frozen
          refine wpOp_step rfl fun KK hK => ?_
          simp only [h6, h30] at hK ⊢
          go_simp
          exact hK _ _ ⟨.int .i64 0, rfl, KZ.put hg6 hB6, (fun d hd => by cases hd), fun _ => trivial⟩
        · intro x u hku hd
          have h31 : x 31 = .int .i64 2 := hd 14 (by decide)
          refine wpOp_step rfl fun KK hK => ?_
          simp only [h31] at hK ⊢
          go_simp
          exact hK _ _ ⟨_, rfl, KZ.refl _, fun d hd => by cases hd; exact rfl, fun h => by cases h⟩
      · intro x u hku hall
        have h7 : x 7 = .int .i64 2 := hall 17 (by decide)
        obtain ⟨gW, h6, hgW, hBW⟩ := (hall 15 (by decide) : (Reg.FactK.zw : Reg.FactK (KZ wr.heap.size)).P (x 6) u)
        simp only [Reg.frame, Reg.over, Nat.reduceAdd, Nat.reduceBEq, Nat.reduceLeDiff, decide_true, decide_false, Bool.or_true, Bool.or_false, if_true, Bool.false_eq_true, if_false, Bool.and_true, Bool.and_false, h6, h7]
        have HA1 := Lib.hid hku.low
        have HZ := Lib.hid hBW
        clear hku hall h6 h7 hBW
        go_wp2_with fail
        refine Reg.wp_slots (fun t => t == 8 || t == 9 || (decide (32 ≤ t) && decide (t ≤ 41))) (by kernel_rfl) (by kernel_rfl) (by kernel_rfl) (fun zz => (Reg.tbl [
          (33, .is (.slice (some ⟨w.heap.size + 2, 0, none⟩) 2 2)),
          (34, .is (.int .i64 k)),
          (35, .is (.pointer (some ⟨w.heap.size + 2, k, none⟩))),
          (36, .is (v)),
          (37, .is (.pointer (some ⟨w.heap.size, 1, none⟩))),
          (38, .is (.int .i64 x1)),
          (39, .is (.tuple #[.int .i64 (-1), .int .i64 (-1)])),
          (32, .is (.tuple #[.int .i64 (-1), .int .i64 (-1)])),
          (40, .is (.int .i64 (-1))),
          (41, .is (.int .i64 (-1))),
          (8, .is (.int .i64 (-1))),
          (9, .is (.int .i64 (-1)))] zz).P) (fun zz => (Reg.tbl _ zz).on) ?_ ?_
        · simp only [Reg.frame, Reg.over, Nat.reduceAdd, Nat.reduceBEq, Nat.reduceLeDiff, decide_true, decide_false, Bool.or_true, Bool.or_false, if_true, Bool.false_eq_true, if_false, Bool.and_true, Bool.and_false]
          refine ⟨?_, ?_, ?_, ?_, ?_, ?_, ?_, ?_, ?_, ?_, ?_, ?_, trivial⟩
          · intro x u hbu hd
            refine wpOp_step rfl fun K hK => ?_
            go_simp
            exact hK _ _ ⟨_, rfl, Below.refl _ _, fun d hd => by cases hd; exact rfl⟩
          · intro x u hbu hd
            refine wpOp_step rfl fun K hK => ?_
            go_simp
            exact hK _ _ ⟨_, rfl, Below.refl _ _, fun d hd => by cases hd; exact rfl⟩
          · intro x u hbu hd
            have h33 : x 33 = .slice (some ⟨w.heap.size + 2, 0, none⟩) 2 2 := hd 0 (by decide)
            have h34 : x 34 = .int .i64 k := hd 1 (by decide)
            refine wpOp_step rfl fun K hK => ?_
            simp only [h33, h34] at hK ⊢
            go_simp
            exact hK _ _ ⟨_, rfl, Below.refl _ _, fun d hd => by cases hd; exact rfl⟩
          · intro x u hbu hd
            have h35 : x 35 = .pointer (some ⟨w.heap.size + 2, k, none⟩) := hd 2 (by decide)
            have hv := HVC.out _ (below_then HA1.out hbu)
            refine wpOp_step rfl fun K hK => ?_
            simp only [h35] at hK ⊢
            go_simp
            exact hK _ _ ⟨_, rfl, Below.refl _ _, fun d hd => by cases hd; exact rfl⟩
          · intro x u hbu hd
            refine wpOp_step rfl fun K hK => ?_
            go_simp
            exact hK _ _ ⟨_, rfl, Below.refl _ _, fun d hd => by cases hd; exact rfl⟩
          · intro x u hbu hd
            have h37 : x 37 = .pointer (some ⟨w.heap.size, 1, none⟩) := hd 4 (by decide)
            have xc := (((HX1.out.on HA1.out).on hbu).cell 1).trans rfl
            have xl := ((HX1.out.on HA1.out).on hbu).lt
            refine wpOp_step rfl fun K hK => ?_
            simp only [h37] at hK ⊢
            go_simp
            exact hK _ _ ⟨_, rfl, Below.refl _ _, fun d hd => by cases hd; exact rfl⟩
          · intro x u hbu hd
            have h36 : x 36 = v := hd 3 (by decide)
            have h38 : x 38 = .int .i64 x1 := hd 5 (by decide)
            refine wpOp_step rfl fun K hK => ?_
            simp only [h36, h38] at hK ⊢
            go_simp
            with_reducible refine (guards_is v 0 [] x1 (-1) (-1) HGA.out HGB.out _ ((HN1.out.on HA1.out).on hbu) (((HW.out.on HB1.out).on HA1.out).on hbu)).mono ?_
            rintro e u' ⟨rfl, hb'⟩
            exact hK _ _ ⟨_, rfl, hb', fun d hd => by cases hd; exact rfl⟩
          · intro x u hbu hd
            have h39 : x 39 = .tuple #[.int .i64 (-1), .int .i64 (-1)] := hd 6 (by decide)
            refine wpOp_step rfl fun K hK => ?_
            simp only [h39] at hK ⊢
            go_simp
            exact hK _ _ ⟨_, rfl, Below.refl _ _, fun d hd => by cases hd; exact rfl⟩
          · intro x u hbu hd
            have h32 : x 32 = .tuple #[.int .i64 (-1), .int .i64 (-1)] := hd 7 (by decide)
            refine wpOp_step rfl fun K hK => ?_
            simp only [h32] at hK ⊢
            go_simp
            exact hK _ _ ⟨_, rfl, Below.refl _ _, fun d hd => by cases hd; exact rfl⟩
          · intro x u hbu hd
            have h32 : x 32 = .tuple #[.int .i64 (-1), .int .i64 (-1)] := hd 7 (by decide)
            refine wpOp_step rfl fun K hK => ?_
            simp only [h32] at hK ⊢
            go_simp
            exact hK _ _ ⟨_, rfl, Below.refl _ _, fun d hd => by cases hd; exact rfl⟩
          · intro x u hbu hd
            have h40 : x 40 = .int .i64 (-1) := hd 8 (by decide)
            refine wpOp_step rfl fun K hK => ?_
            simp only [h40] at hK ⊢
            go_simp
            exact hK _ _ ⟨_, rfl, Below.refl _ _, fun d hd => by cases hd; exact rfl⟩
          · intro x u hbu hd
            have h41 : x 41 = .int .i64 (-1) := hd 9 (by decide)
            refine wpOp_step rfl fun K hK => ?_
            simp only [h41] at hK ⊢
            go_simp
            exact hK _ _ ⟨_, rfl, Below.refl _ _, fun d hd => by cases hd; exact rfl⟩
        · intro y u2 hbu hall
          have h8 : y 8 = .int .i64 (-1) := hall 10 (by decide)
          have h9 : y 9 = .int .i64 (-1) := hall 11 (by decide)
          simp only [Reg.frame, Reg.over, Nat.reduceAdd, Nat.reduceBEq, Nat.reduceLeDiff, decide_true, decide_false, Bool.or_true, Bool.or_false, if_true, Bool.false_eq_true, if_false, Bool.and_true, Bool.and_false, h8, h9]
          have HA2 := Lib.hid (below_then HA1.out hbu)
          have hX2 := HX1.out.on HA2.out
          have t3 := hX2.cell 3; have tl := hX2.lt; simp only [List.getElem?_toArray, List.getElem?_cons_zero, List.getElem?_cons_succ] at t3
          have hZ2 := HZ.out.on hbu
          have z0 := hZ2.cell 0; have z1 := hZ2.cell 1; have z2 := hZ2.cell 2; have z3 := hZ2.cell 3; have zl := hZ2.lt; simp only [List.getElem?_toArray, List.getElem?_cons_zero, List.getElem?_cons_succ] at z0 z1 z2 z3
          clear hbu hall h8 h9
          go_wp2_with (first
            | (go_at_call 13; (with_reducible refine (winAt_is ⟨0, 0, 0, 0⟩ x3 0 HOI.out false HOB.out _ HFZ.out).mono ?_); rintro e w3 ⟨rfl, b3⟩; clear t3 tl z0 z1 z2 z3 zl; have hX3 := hX2.on b3; have t3 := hX3.cell 3; have tl := hX3.lt; simp only [List.getElem?_toArray, List.getElem?_cons_zero, List.getElem?_cons_succ] at t3; have hZ3 := hZ2.on b3; have z0 := hZ3.cell 0; have z1 := hZ3.cell 1; have z2 := hZ3.cell 2; have z3 := hZ3.cell 3; have zl := hZ3.lt; simp only [List.getElem?_toArray, List.getElem?_cons_zero, List.getElem?_cons_succ] at z0 z1 z2 z3; have HA3 := Lib.hid (below_then HA2.out b3); have hv3 := HVC.out _ HA3.out; have hN3 := HN1.out.on HA3.out; have hW3 := (HW.out.on HB1.out).on HA3.out)
            | (go_at_call 18; (with_reducible refine (winOver_is v 0 [] 0 HOV.out _ hN3 hW3).mono ?_); rintro e w4 ⟨rfl, b4⟩; clear t3 tl z0 z1 z2 z3 zl; have hX4 := hX3.on b4; have t3 := hX4.cell 3; have tl := hX4.lt; simp only [List.getElem?_toArray, List.getElem?_cons_zero, List.getElem?_cons_succ] at t3; have hZ4 := hZ3.on b4; have z0 := hZ4.cell 0; have z1 := hZ4.cell 1; have z2 := hZ4.cell 2; have z3 := hZ4.cell 3; have zl := hZ4.lt; simp only [List.getElem?_toArray, List.getElem?_cons_zero, List.getElem?_cons_succ] at z0 z1 z2 z3; have HA4 := Lib.hid (below_then HA3.out b4))
            | (go_at_call 17; (with_reducible refine (winPass_is ⟨0, 0, 0, 0⟩ x3 2 0 HPS.out _ HFZ.out).mono ?_); rintro e w5 ⟨rfl, b5⟩; have HA5 := Lib.hid (below_then HA4.out b5)))
          go_roundw
          case rel => exact ⟨k + 1, by omega, by go_num, HX1.out.on HA5.out, HNB.out.on HA5.out, HV1.out.on HA5.out, below_then HB1.out HA5.out⟩
          case measure => simp [intOf]; omega
    · have hkd : decide ((k : Int) < 2) = false := decide_eq_false (by omega)
      clear hX hN hV
      go_wp2_with (go_at_call 9; (with_reducible refine (lives_wn _ (HW.out.on hb)).mono ?_); rintro e u2 ⟨rfl, c2⟩)
      go_ret
      exact ⟨rfl, below_then hb c2⟩
end Go.Proofs.YtajkpbmjgncbbaaDoor

