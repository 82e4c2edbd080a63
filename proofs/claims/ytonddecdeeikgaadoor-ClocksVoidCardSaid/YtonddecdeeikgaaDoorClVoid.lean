/-
  The law ClocksVoid, walked: without a net there is no time, and no clock; a clock that is not there, or that no call made, runs nothing: true; nothing that was there has turned. Condition: the table of directions is as the program's text lays it.
-/
import Derived.Test.YtonddecdeeikgaaDoorCl9
namespace Go.Proofs.YtonddecdeeikgaaDoor
open Go.RowKit Cl Rg
set_option linter.unusedVariables false

theorem Blk.newAt {w : World} {t : TypeId} {cs : Array Value} {g : Nat} (hg : g = w.heap.size) : Blk (w.alloc (.cells cs t)) g t cs := by subst hg; exact Blk.new w t cs
theorem elemNets : Tryd.prog.underlying 46 = some (.slice (Tryd.prog.elem 46)) := by kernel_rfl
theorem sizeNets (w : World) : (sizeOf (Tryd.prog.elem 46)).run Tryd.prog w = .ok 1 w := by kernel_rfl
theorem idxNets {A : Option Addr} {n : Nat} (c : Nat) {k b off : Nat} (hA : A = some ⟨b, off, none⟩) (hk : k < n) (w : World) :
    (Instr.indexAt 46 (.slice A n c) (.int .i64 (k : Int))).run Tryd.prog w = .ok (.pointer (some ⟨b, off + k, none⟩)) w := by
  subst hA
  rw [run_indexAt_slice (h := elemNets), if_pos (by omega), sizeNets]
  simp [Result.andThen, Addr.add_lit]
theorem elemClks : Tryd.prog.underlying 54 = some (.slice (Tryd.prog.elem 54)) := by kernel_rfl
theorem sizeClks (w : World) : (sizeOf (Tryd.prog.elem 54)).run Tryd.prog w = .ok 1 w := by kernel_rfl
theorem idxClks {A : Option Addr} {n : Nat} (c : Nat) {k b off : Nat} (hA : A = some ⟨b, off, none⟩) (hk : k < n) (w : World) :
    (Instr.indexAt 54 (.slice A n c) (.int .i64 (k : Int))).run Tryd.prog w = .ok (.pointer (some ⟨b, off + k, none⟩)) w := by
  subst hA
  rw [run_indexAt_slice (h := elemClks), if_pos (by omega), sizeClks]
  simp [Result.andThen, Addr.add_lit]

set_option maxRecDepth 100000 in
set_option maxHeartbeats 4000000 in
theorem clocksVoid_walk (a : Int) (t : Tm) (w : World) (hw : Ways w) :
    Calls Tryd.prog 4 #[.int .i64 a, .agg #[.int .i64 t.r, .int .i64 t.k, .int .i64 t.p]] w fun e w' => e = .returned (.bool true) ∧ Below w.heap.size w w' := by
  have HW := Lib.hid hw
  have q1 := tm_neq 0 0 0 0 0 0
  simp only [beq_self_eq_true, Bool.and_self, Bool.not_true] at q1
  clear hw
  go_enter Tryd.func4, Tryd.ntmps4
  go_wp2_with fail
  go_loopw [7] (fun i wr => ∃ k : Nat, k ≤ 2 ∧ i = .int .i64 k ∧ Blk wr w.heap.size 27 #[.int .i64 t.r, .int .i64 t.k, .int .i64 t.p] ∧ Blk wr (w.heap.size + 1) 45 #[.int .i64 zeroCf.N, .slice zeroCf.pA zeroCf.pn zeroCf.pc, .slice zeroCf.sA zeroCf.sn zeroCf.sc, .int .i64 zeroCf.L, .slice zeroCf.bA zeroCf.bn zeroCf.bc, .slice zeroCf.tA zeroCf.tn zeroCf.tc, .int .i64 zeroCf.M, .int .i64 zeroCf.G, .int .i64 zeroCf.F, .int .i64 zeroCf.N, .slice zeroCf.pA zeroCf.pn zeroCf.pc, .slice zeroCf.sA zeroCf.sn zeroCf.sc, .int .i64 zeroCf.L, .slice zeroCf.bA zeroCf.bn zeroCf.bc, .slice zeroCf.tA zeroCf.tn zeroCf.tc, .int .i64 zeroCf.M, .int .i64 zeroCf.G, .int .i64 zeroCf.F] ∧ Blk wr (w.heap.size + 2) 28 #[.pointer none, .pointer (some ⟨w.heap.size + 1, 0, none⟩)] ∧ Below w.heap.size w wr) (fun i _ => 2 - (intOf i).toNat)
  case atStart => exact ⟨0, by omega, rfl, ((Blk.new w _ _).alloc _).alloc _, (Blk.newAt (by simp)).alloc _, Blk.newAt (by simp), below_al (below_al (below_al (Below.refl _ _) _) _) _⟩
  case round =>
    obtain ⟨k, hk, rfl, hX, hN, hV, hb⟩ := hrel
    by_cases hlt : k < 2
    · obtain ⟨v, hv, hn⟩ : ∃ v, wr.cell? ⟨w.heap.size + 2, k, none⟩ = some v ∧ NetIs wr v zeroCf := by
        rcases Nat.lt_succ_iff_lt_or_eq.1 hlt with q | q
        · obtain rfl : k = 0 := by omega
          exact ⟨_, hV.cell 0, .inl ⟨rfl, rfl⟩⟩
        · subst q
          exact ⟨_, hV.cell 1, .inr ⟨_, zeroCf, rfl, hN, zero_in wr⟩⟩
      have hvl : w.heap.size + 2 < wr.heap.size := hV.lt
      have hix := fun W => idxNets (n := 2) 2 (b := w.heap.size + 2) (off := 0) rfl hlt W
      simp only [Nat.zero_add] at hix
      have HVW := Lib.hid (show ∀ u, Below wr.heap.size wr u → u.cell? ⟨w.heap.size + 2, k, none⟩ = some v from fun u hu => (hu.cell hvl).trans hv)
      have HN1 := Lib.hid hn
      have HX1 := Lib.hid hX
      have HV1 := Lib.hid hV
      have HNB := Lib.hid hN
      have HB1 := Lib.hid hb
      clear hn hX hV hN hvl hb
      have hkd : decide ((k : Int) < 2) = true := decide_eq_true (by omega)
      go_wp2_with (go_at_call 10; (with_reducible refine (clkOf_none v zeroCf a wr HN1.out rfl rfl).mono ?_); rintro e u1 ⟨rfl, a1⟩)
      have a1' := below_al a1 (.cells #[.int .i64 0, .int .i64 0, .int .i64 0] 27)
      have HZ7 := Lib.hid (Blk.new u1 27 #[.int .i64 0, .int .i64 0, .int .i64 0])
      have HVC := Lib.hid (fun u (h : Below (u1.alloc (.cells #[.int .i64 0, .int .i64 0, .int .i64 0] 27)).heap.size (u1.alloc (.cells #[.int .i64 0, .int .i64 0, .int .i64 0] 27)) u) => HVW.out u (below_then a1' h))
      have HNS := Lib.hid (HN1.out.on a1')
      have HT := Lib.hid (HX1.out.on a1')
      have HA1 := Lib.hid a1'
      clear a1 a1' hv
      refine Reg.wp_slots (fun t => t == 10 || t == 11 || (decide (33 ≤ t) && decide (t ≤ 41))) (by kernel_rfl) (by kernel_rfl) (by kernel_rfl) (fun zz => (Reg.tbl [
        (34, .is (.slice (some ⟨w.heap.size + 2, 0, none⟩) 2 2)),
        (35, .is (.int .i64 k)),
        (36, .is (.pointer (some ⟨w.heap.size + 2, k, none⟩))),
        (37, .is (v)),
        (38, .is (.agg #[.int .i64 t.r, .int .i64 t.k, .int .i64 t.p])),
        (39, .is (.tuple #[.int .i64 0, .int .i64 2])),
        (33, .is (.tuple #[.int .i64 0, .int .i64 2])),
        (40, .is (.int .i64 0)),
        (41, .is (.int .i64 2)),
        (10, .is (.int .i64 0)),
        (11, .is (.int .i64 2))] zz).P) (fun zz => (Reg.tbl _ zz).on) ?_ ?_
      · simp only [Reg.frame, Reg.over, Nat.reduceAdd, Nat.reduceBEq, Nat.reduceLeDiff, decide_true, decide_false, Bool.or_true, Bool.or_false, if_true, Bool.false_eq_true, if_false, Bool.and_true, Bool.and_false]
        refine ⟨?_, ?_, ?_, ?_, ?_, ?_, ?_, ?_, ?_, ?_, ?_, trivial⟩
        · intro x u hbu hd
          refine wpOp_step rfl fun K hK => ?_
          go_simp
          exact hK _ _ ⟨_, rfl, Below.refl _ _, fun d hd => by cases hd; exact rfl⟩
        · intro x u hbu hd
          refine wpOp_step rfl fun K hK => ?_
          go_simp
          exact hK _ _ ⟨_, rfl, Below.refl _ _, fun d hd => by cases hd; exact rfl⟩
        · intro x u hbu hd
          have h34 : x 34 = .slice (some ⟨w.heap.size + 2, 0, none⟩) 2 2 := hd 0 (by decide)
          have h35 : x 35 = .int .i64 k := hd 1 (by decide)
          refine wpOp_step rfl fun K hK => ?_
          simp only [h34, h35] at hK ⊢
          go_simp
          exact hK _ _ ⟨_, rfl, Below.refl _ _, fun d hd => by cases hd; exact rfl⟩
        · intro x u hbu hd
          have h36 : x 36 = .pointer (some ⟨w.heap.size + 2, k, none⟩) := hd 2 (by decide)
          have hv := HVC.out _ hbu
          refine wpOp_step rfl fun K hK => ?_
          simp only [h36] at hK ⊢
          go_simp
          exact hK _ _ ⟨_, rfl, Below.refl _ _, fun d hd => by cases hd; exact rfl⟩
        · intro x u hbu hd
          have t0 := (HT.out.on hbu).cell 0
          have t1 := (HT.out.on hbu).cell 1
          have t2 := (HT.out.on hbu).cell 2
          have tl := (HT.out.on hbu).lt
          simp only [List.getElem?_toArray, List.getElem?_cons_zero, List.getElem?_cons_succ] at t0 t1 t2
          refine wpOp_step rfl fun K hK => ?_
          go_simp
          exact hK _ _ ⟨_, rfl, Below.refl _ _, fun d hd => by cases hd; exact rfl⟩
        · intro x u hbu hd
          have h37 : x 37 = v := hd 3 (by decide)
          have h38 : x 38 = .agg #[.int .i64 t.r, .int .i64 t.k, .int .i64 t.p] := hd 4 (by decide)
          refine wpOp_step rfl fun K hK => ?_
          simp only [h37, h38] at hK ⊢
          go_simp
          with_reducible refine (clkAge_none v zeroCf t _ (HNS.out.on hbu) rfl rfl).mono ?_
          rintro e u' ⟨rfl, hb'⟩
          exact hK _ _ ⟨_, rfl, hb', fun d hd => by cases hd; exact rfl⟩
        · intro x u hbu hd
          have h39 : x 39 = .tuple #[.int .i64 0, .int .i64 2] := hd 5 (by decide)
          refine wpOp_step rfl fun K hK => ?_
          simp only [h39] at hK ⊢
          go_simp
          exact hK _ _ ⟨_, rfl, Below.refl _ _, fun d hd => by cases hd; exact rfl⟩
        · intro x u hbu hd
          have h33 : x 33 = .tuple #[.int .i64 0, .int .i64 2] := hd 6 (by decide)
          refine wpOp_step rfl fun K hK => ?_
          simp only [h33] at hK ⊢
          go_simp
          exact hK _ _ ⟨_, rfl, Below.refl _ _, fun d hd => by cases hd; exact rfl⟩
        · intro x u hbu hd
          have h33 : x 33 = .tuple #[.int .i64 0, .int .i64 2] := hd 6 (by decide)
          refine wpOp_step rfl fun K hK => ?_
          simp only [h33] at hK ⊢
          go_simp
          exact hK _ _ ⟨_, rfl, Below.refl _ _, fun d hd => by cases hd; exact rfl⟩
        · intro x u hbu hd
          have h40 : x 40 = .int .i64 0 := hd 7 (by decide)
          refine wpOp_step rfl fun K hK => ?_
          simp only [h40] at hK ⊢
          go_simp
          exact hK _ _ ⟨_, rfl, Below.refl _ _, fun d hd => by cases hd; exact rfl⟩
        · intro x u hbu hd
          have h41 : x 41 = .int .i64 2 := hd 8 (by decide)
          refine wpOp_step rfl fun K hK => ?_
          simp only [h41] at hK ⊢
          go_simp
          exact hK _ _ ⟨_, rfl, Below.refl _ _, fun d hd => by cases hd; exact rfl⟩
      · intro x u hbu hall
        have h10 : x 10 = .int .i64 0 := hall 9 (by decide)
        have h11 : x 11 = .int .i64 2 := hall 10 (by decide)
        simp only [Reg.frame, Reg.over, Nat.reduceAdd, Nat.reduceBEq, Nat.reduceLeDiff, decide_true, decide_false, Bool.or_true, Bool.or_false, if_true, Bool.false_eq_true, if_false, Bool.and_true, Bool.and_false, h10, h11]
        have HZ8 := Lib.hid (HZ7.out.on hbu)
        have HA2 := Lib.hid (below_then HA1.out hbu)
        clear HZ7 HVC HNS HT HA1 hbu hall h10 h11
        have HVC := Lib.hid (fun u' (h : Below u.heap.size u u') => HVW.out u' (below_then HA2.out h))
        have HNS := Lib.hid (HN1.out.on HA2.out)
        have HT := Lib.hid (HX1.out.on HA2.out)
        go_wp2_with fail
        refine Reg.wp_slots (fun t => decide (42 ≤ t) && decide (t ≤ 73)) (by kernel_rfl) (by kernel_rfl) (by kernel_rfl) (fun zz => (Reg.tbl [
          (42, .is (.int .i64 2)),
          (43, .is (.bool false)),
          (44, .is (.bool false)),
          (45, .is (.int .i64 2)),
          (46, .is (.bool false)),
          (47, .is (.bool false)),
          (48, .is (.bool false)),
          (49, .is (.agg #[.int .i64 0, .int .i64 0, .int .i64 0])),
          (50, .is (.agg #[.int .i64 0, .int .i64 0, .int .i64 0])),
          (51, .is (.bool false)),
          (52, .is (.bool false)),
          (53, .is (.bool false)),
          (54, .is (.int .i64 0)),
          (55, .is (.bool false)),
          (56, .is (.bool false)),
          (57, .is (.bool false)),
          (58, .is (.slice (some ⟨w.heap.size + 2, 0, none⟩) 2 2)),
          (59, .is (.int .i64 k)),
          (60, .is (.pointer (some ⟨w.heap.size + 2, k, none⟩))),
          (61, .is (v)),
          (62, .is (.agg #[.int .i64 t.r, .int .i64 t.k, .int .i64 t.p])),
          (63, .is (.int .i64 (-1))),
          (64, .is (.bool false)),
          (65, .is (.bool false)),
          (66, .is (.bool false)),
          (67, .is (.slice (some ⟨w.heap.size + 2, 0, none⟩) 2 2)),
          (68, .is (.int .i64 k)),
          (69, .is (.pointer (some ⟨w.heap.size + 2, k, none⟩))),
          (70, .is (v)),
          (71, .is (.pointer none)),
          (72, .is (.bool false)),
          (73, .is (.bool false))] zz).P) (fun zz => (Reg.tbl _ zz).on) ?_ ?_
        · simp only [Reg.frame, Reg.over, Nat.reduceAdd, Nat.reduceLeDiff, decide_true, decide_false, if_true, Bool.false_eq_true, if_false, Bool.and_true, Bool.and_false]
          refine ⟨?_, ?_, ?_, ?_, ?_, ?_, ?_, ?_, ?_, ?_, ?_, ?_, ?_, ?_, ?_, ?_, ?_, ?_, ?_, ?_, ?_, ?_, ?_, ?_, ?_, ?_, ?_, ?_, ?_, ?_, ?_, ?_, trivial⟩
          · intro x u hbu hd
            refine wpOp_step rfl fun K hK => ?_
            go_simp
            exact hK _ _ ⟨_, rfl, Below.refl _ _, fun d hd => by cases hd; exact rfl⟩
          · intro x u hbu hd
            have h42 : x 42 = .int .i64 2 := hd 0 (by decide)
            refine wpOp_step rfl fun K hK => ?_
            simp only [h42] at hK ⊢
            go_simp
            exact hK _ _ ⟨_, rfl, Below.refl _ _, fun d hd => by cases hd; exact rfl⟩
          · intro x u hbu hd
            have h43 : x 43 = .bool false := hd 1 (by decide)
            refine wpOp_step rfl fun K hK => ?_
            simp only [h43] at hK ⊢
            go_simp
            exact hK _ _ ⟨_, rfl, Below.refl _ _, fun d hd => by cases hd; exact rfl⟩
          · intro x u hbu hd
            have h44 : x 44 = .bool false := hd 2 (by decide)
            refine wpOp_step rfl fun K hK => ?_
            simp only [h44] at hK ⊢
            go_simp
            exact hK _ _ ⟨_, rfl, Below.refl _ _, fun d hd => by cases hd; exact rfl⟩
          · intro x u hbu hd
            have h45 : x 45 = .int .i64 2 := hd 3 (by decide)
            have h44 : x 44 = .bool false := hd 2 (by decide)
            refine wpOp_step rfl fun K hK => ?_
            simp only [h45, h44] at hK ⊢
            go_simp
            exact hK _ _ ⟨_, rfl, Below.refl _ _, fun d hd => by cases hd; exact rfl⟩
          · intro x u hbu hd
            have h44 : x 44 = .bool false := hd 2 (by decide)
            have h46 : x 46 = .bool false := hd 4 (by decide)
            refine wpOp_step rfl fun K hK => ?_
            simp only [h44, h46] at hK ⊢
            go_simp
            exact hK _ _ ⟨_, rfl, Below.refl _ _, fun d hd => by cases hd; exact rfl⟩
          · intro x u hbu hd
            have h47 : x 47 = .bool false := hd 5 (by decide)
            refine wpOp_step rfl fun K hK => ?_
            simp only [h47] at hK ⊢
            go_simp
            exact hK _ _ ⟨_, rfl, Below.refl _ _, fun d hd => by cases hd; exact rfl⟩
          · intro x u hbu hd
            have h48 : x 48 = .bool false := hd 6 (by decide)
            have z0 := (HZ8.out.on hbu).cell 0
            have z1 := (HZ8.out.on hbu).cell 1
            have z2 := (HZ8.out.on hbu).cell 2
            have zl := (HZ8.out.on hbu).lt
            simp only [List.getElem?_toArray, List.getElem?_cons_zero, List.getElem?_cons_succ] at z0 z1 z2
            refine wpOp_step rfl fun K hK => ?_
            simp only [h48] at hK ⊢
            go_simp
            exact hK _ _ ⟨_, rfl, Below.refl _ _, fun d hd => by cases hd; exact rfl⟩
          · intro x u hbu hd
            have h48 : x 48 = .bool false := hd 6 (by decide)
            refine wpOp_step rfl fun K hK => ?_
            simp only [h48] at hK ⊢
            go_simp
            exact hK _ _ ⟨_, rfl, Below.refl _ _, fun d hd => by cases hd; exact rfl⟩
          · intro x u hbu hd
            have h49 : x 49 = .agg #[.int .i64 0, .int .i64 0, .int .i64 0] := hd 7 (by decide)
            have h50 : x 50 = .agg #[.int .i64 0, .int .i64 0, .int .i64 0] := hd 8 (by decide)
            have h48 : x 48 = .bool false := hd 6 (by decide)
            refine wpOp_step rfl fun K hK => ?_
            simp only [h49, h50, h48] at hK ⊢
            go_simp
            exact hK _ _ ⟨_, rfl, Below.refl _ _, fun d hd => by cases hd; exact rfl⟩
          · intro x u hbu hd
            have h48 : x 48 = .bool false := hd 6 (by decide)
            have h51 : x 51 = .bool false := hd 9 (by decide)
            refine wpOp_step rfl fun K hK => ?_
            simp only [h48, h51] at hK ⊢
            go_simp
            exact hK _ _ ⟨_, rfl, Below.refl _ _, fun d hd => by cases hd; exact rfl⟩
          · intro x u hbu hd
            have h52 : x 52 = .bool false := hd 10 (by decide)
            refine wpOp_step rfl fun K hK => ?_
            simp only [h52] at hK ⊢
            go_simp
            exact hK _ _ ⟨_, rfl, Below.refl _ _, fun d hd => by cases hd; exact rfl⟩
          · intro x u hbu hd
            have h53 : x 53 = .bool false := hd 11 (by decide)
            refine wpOp_step rfl fun K hK => ?_
            simp only [h53] at hK ⊢
            go_simp
            exact hK _ _ ⟨_, rfl, Below.refl _ _, fun d hd => by cases hd; exact rfl⟩
          · intro x u hbu hd
            have h54 : x 54 = .int .i64 0 := hd 12 (by decide)
            have h53 : x 53 = .bool false := hd 11 (by decide)
            refine wpOp_step rfl fun K hK => ?_
            simp only [h54, h53] at hK ⊢
            go_simp
            exact hK _ _ ⟨_, rfl, Below.refl _ _, fun d hd => by cases hd; exact rfl⟩
          · intro x u hbu hd
            have h53 : x 53 = .bool false := hd 11 (by decide)
            have h55 : x 55 = .bool false := hd 13 (by decide)
            refine wpOp_step rfl fun K hK => ?_
            simp only [h53, h55] at hK ⊢
            go_simp
            exact hK _ _ ⟨_, rfl, Below.refl _ _, fun d hd => by cases hd; exact rfl⟩
          · intro x u hbu hd
            have h56 : x 56 = .bool false := hd 14 (by decide)
            refine wpOp_step rfl fun K hK => ?_
            simp only [h56] at hK ⊢
            go_simp
            exact hK _ _ ⟨_, rfl, Below.refl _ _, fun d hd => by cases hd; exact rfl⟩
          · intro x u hbu hd
            have h57 : x 57 = .bool false := hd 15 (by decide)
            refine wpOp_step rfl fun K hK => ?_
            simp only [h57] at hK ⊢
            go_simp
            exact hK _ _ ⟨_, rfl, Below.refl _ _, fun d hd => by cases hd; exact rfl⟩
          · intro x u hbu hd
            have h57 : x 57 = .bool false := hd 15 (by decide)
            refine wpOp_step rfl fun K hK => ?_
            simp only [h57] at hK ⊢
            go_simp
            exact hK _ _ ⟨_, rfl, Below.refl _ _, fun d hd => by cases hd; exact rfl⟩
          · intro x u hbu hd
            have h58 : x 58 = .slice (some ⟨w.heap.size + 2, 0, none⟩) 2 2 := hd 16 (by decide)
            have h59 : x 59 = .int .i64 k := hd 17 (by decide)
            have h57 : x 57 = .bool false := hd 15 (by decide)
            refine wpOp_step rfl fun K hK => ?_
            simp only [h58, h59, h57] at hK ⊢
            go_simp
            exact hK _ _ ⟨_, rfl, Below.refl _ _, fun d hd => by cases hd; exact rfl⟩
          · intro x u hbu hd
            have h60 : x 60 = .pointer (some ⟨w.heap.size + 2, k, none⟩) := hd 18 (by decide)
            have h57 : x 57 = .bool false := hd 15 (by decide)
            have hv := HVC.out _ hbu
            refine wpOp_step rfl fun K hK => ?_
            simp only [h60, h57] at hK ⊢
            go_simp
            exact hK _ _ ⟨_, rfl, Below.refl _ _, fun d hd => by cases hd; exact rfl⟩
          · intro x u hbu hd
            have h57 : x 57 = .bool false := hd 15 (by decide)
            have t0 := (HT.out.on hbu).cell 0
            have t1 := (HT.out.on hbu).cell 1
            have t2 := (HT.out.on hbu).cell 2
            have tl := (HT.out.on hbu).lt
            simp only [List.getElem?_toArray, List.getElem?_cons_zero, List.getElem?_cons_succ] at t0 t1 t2
            refine wpOp_step rfl fun K hK => ?_
            simp only [h57] at hK ⊢
            go_simp
            exact hK _ _ ⟨_, rfl, Below.refl _ _, fun d hd => by cases hd; exact rfl⟩
          · intro x u hbu hd
            have h61 : x 61 = v := hd 19 (by decide)
            have h62 : x 62 = .agg #[.int .i64 t.r, .int .i64 t.k, .int .i64 t.p] := hd 20 (by decide)
            have h57 : x 57 = .bool false := hd 15 (by decide)
            refine wpOp_step rfl fun K hK => ?_
            simp only [h61, h62, h57] at hK ⊢
            go_simp
            with_reducible refine (clkAhead_none v zeroCf t _ (HNS.out.on hbu) rfl).mono ?_
            rintro e u' ⟨rfl, hb'⟩
            exact hK _ _ ⟨_, rfl, hb', fun d hd => by cases hd; exact rfl⟩
          · intro x u hbu hd
            have h63 : x 63 = .int .i64 (-1) := hd 21 (by decide)
            have h57 : x 57 = .bool false := hd 15 (by decide)
            refine wpOp_step rfl fun K hK => ?_
            simp only [h63, h57] at hK ⊢
            go_simp
            exact hK _ _ ⟨_, rfl, Below.refl _ _, fun d hd => by cases hd; exact rfl⟩
          · intro x u hbu hd
            have h57 : x 57 = .bool false := hd 15 (by decide)
            have h64 : x 64 = .bool false := hd 22 (by decide)
            refine wpOp_step rfl fun K hK => ?_
            simp only [h57, h64] at hK ⊢
            go_simp
            exact hK _ _ ⟨_, rfl, Below.refl _ _, fun d hd => by cases hd; exact rfl⟩
          · intro x u hbu hd
            have h65 : x 65 = .bool false := hd 23 (by decide)
            refine wpOp_step rfl fun K hK => ?_
            simp only [h65] at hK ⊢
            go_simp
            exact hK _ _ ⟨_, rfl, Below.refl _ _, fun d hd => by cases hd; exact rfl⟩
          · intro x u hbu hd
            have h66 : x 66 = .bool false := hd 24 (by decide)
            refine wpOp_step rfl fun K hK => ?_
            simp only [h66] at hK ⊢
            go_simp
            exact hK _ _ ⟨_, rfl, Below.refl _ _, fun d hd => by cases hd; exact rfl⟩
          · intro x u hbu hd
            have h66 : x 66 = .bool false := hd 24 (by decide)
            refine wpOp_step rfl fun K hK => ?_
            simp only [h66] at hK ⊢
            go_simp
            exact hK _ _ ⟨_, rfl, Below.refl _ _, fun d hd => by cases hd; exact rfl⟩
          · intro x u hbu hd
            have h67 : x 67 = .slice (some ⟨w.heap.size + 2, 0, none⟩) 2 2 := hd 25 (by decide)
            have h68 : x 68 = .int .i64 k := hd 26 (by decide)
            have h66 : x 66 = .bool false := hd 24 (by decide)
            refine wpOp_step rfl fun K hK => ?_
            simp only [h67, h68, h66] at hK ⊢
            go_simp
            exact hK _ _ ⟨_, rfl, Below.refl _ _, fun d hd => by cases hd; exact rfl⟩
          · intro x u hbu hd
            have h69 : x 69 = .pointer (some ⟨w.heap.size + 2, k, none⟩) := hd 27 (by decide)
            have h66 : x 66 = .bool false := hd 24 (by decide)
            have hv := HVC.out _ hbu
            refine wpOp_step rfl fun K hK => ?_
            simp only [h69, h66] at hK ⊢
            go_simp
            exact hK _ _ ⟨_, rfl, Below.refl _ _, fun d hd => by cases hd; exact rfl⟩
          · intro x u hbu hd
            have h70 : x 70 = v := hd 28 (by decide)
            have h66 : x 66 = .bool false := hd 24 (by decide)
            refine wpOp_step rfl fun K hK => ?_
            simp only [h70, h66] at hK ⊢
            go_simp
            with_reducible refine (clkNew_none v zeroCf _ (HNS.out.on hbu) rfl rfl).mono ?_
            rintro e u' ⟨rfl, hb'⟩
            exact hK _ _ ⟨_, rfl, hb', fun d hd => by cases hd; exact rfl⟩
          · intro x u hbu hd
            have h71 : x 71 = .pointer none := hd 29 (by decide)
            have h66 : x 66 = .bool false := hd 24 (by decide)
            refine wpOp_step rfl fun K hK => ?_
            simp only [h71, h66] at hK ⊢
            go_simp
            exact hK _ _ ⟨_, rfl, Below.refl _ _, fun d hd => by cases hd; exact rfl⟩
          · intro x u hbu hd
            have h66 : x 66 = .bool false := hd 24 (by decide)
            have h72 : x 72 = .bool false := hd 30 (by decide)
            refine wpOp_step rfl fun K hK => ?_
            simp only [h66, h72] at hK ⊢
            go_simp
            exact hK _ _ ⟨_, rfl, Below.refl _ _, fun d hd => by cases hd; exact rfl⟩
        · intro y u2 hbu hall
          have h73 : y 73 = .bool false := hall 31 (by decide)
          simp only [Reg.frame, Reg.over, Nat.reduceAdd, Nat.reduceLeDiff, decide_true, decide_false, if_true, Bool.false_eq_true, if_false, Bool.and_true, Bool.and_false, h73]
          have HA3 := Lib.hid (below_then HA2.out hbu)
          clear HVC HNS HT hbu hall h73 HA2 HZ8
          go_wp2_with fail
          go_roundw
          case rel => exact ⟨k + 1, by omega, by go_num, HX1.out.on HA3.out, HNB.out.on HA3.out, HV1.out.on HA3.out, below_then HB1.out HA3.out⟩
          case measure => simp [intOf]; omega
    · obtain ⟨u0, rfl⟩ : ∃ u0, u0 = wr := ⟨_, rfl⟩
      have hkd : decide ((k : Int) < 2) = false := decide_eq_false (by omega)
      have HB1 := Lib.hid hb
      clear hX hN hV hb
      go_wp2_with fail
      go_loopw [14] (fun i wr => ∃ j : Nat, j ≤ 2 ∧ i = .int .i64 j ∧ Clk wr u0.heap.size 0 0 0 Tm.zero ∧ Blk wr (u0.heap.size + 1) 47 #[.pointer none, .pointer (some ⟨u0.heap.size, 0, none⟩)] ∧ Below u0.heap.size u0 wr) (fun i _ => 2 - (intOf i).toNat)
      case atStart => exact ⟨0, by omega, rfl, Blk.alloc (Blk.new u0 _ _) _, Blk.newAt (by simp), below_al (below_al (Below.refl _ _) _) _⟩
      case round =>
        obtain ⟨j, hj, rfl, hC, hV, hb⟩ := hrel
        by_cases hjl : j < 2
        · rcases Nat.lt_succ_iff_lt_or_eq.1 hjl with q | q
          · obtain rfl : j = 0 := by omega
            have c0 := hV.cell 0
            simp only [List.getElem?_toArray, List.getElem?_cons_zero] at c0
            have hix := fun W => idxClks (n := 2) 2 (b := u0.heap.size + 1) (off := 0) (k := 0) rfl hjl W
            simp only [Nat.zero_add, Int.natCast_zero] at hix
            have vl := hV.lt
            go_wp2_with (first
              | (go_at_call 18; (with_reducible refine (tick_nil a true wr).mono ?_); rintro e u1 ⟨rfl, a1⟩; have a1' := below_al a1 (.cells #[.int .i64 0, .int .i64 0, .int .i64 0] 27); clear c0; have c0 := (hV.on a1').cell 0; simp only [List.getElem?_toArray, List.getElem?_cons_zero] at c0; have vl1 := (hV.on a1').lt; have hZ1 := Blk.new u1 27 #[.int .i64 0, .int .i64 0, .int .i64 0])
              | (go_at_call 19; (with_reducible refine (slot_nil _).mono ?_); rintro e u2 ⟨rfl, a2⟩; have z0 := (hZ1.on a2).cell 0; have z1 := (hZ1.on a2).cell 1; have z2 := (hZ1.on a2).cell 2; have zl := (hZ1.on a2).lt; simp only [List.getElem?_toArray, List.getElem?_cons_zero, List.getElem?_cons_succ] at z0 z1 z2))
            go_roundw
            case rel => exact ⟨1, by omega, by go_num, Blk.on hC (below_then a1' a2), hV.on (below_then a1' a2), below_then hb (below_then a1' a2)⟩
            case measure => simp [intOf]
          · subst q
            have c0 := hV.cell 1
            simp only [List.getElem?_toArray, List.getElem?_cons_zero, List.getElem?_cons_succ] at c0
            have hix := fun W => idxClks (n := 2) 2 (b := u0.heap.size + 1) (off := 0) (k := 1) rfl hjl W
            simp only [Nat.zero_add, Int.natCast_one] at hix
            have vl := hV.lt
            go_wp2_with (first
              | (go_at_call 18; (with_reducible refine (tick_unmade u0.heap.size 0 0 a true wr hC).mono ?_); rintro e u1 ⟨rfl, hC1, a1⟩; have hC1' : Clk (u1.alloc (.cells #[.int .i64 0, .int .i64 0, .int .i64 0] 27)) u0.heap.size 0 0 0 Tm.zero := Blk.alloc hC1 (.cells #[.int .i64 0, .int .i64 0, .int .i64 0] 27); have hV1 := (a1.blk hV (by omega)).alloc (.cells #[.int .i64 0, .int .i64 0, .int .i64 0] 27); clear c0; have c0 := hV1.cell 1; simp only [List.getElem?_toArray, List.getElem?_cons_zero, List.getElem?_cons_succ] at c0; have vl1 := hV1.lt; have hZ1 := Blk.new u1 27 #[.int .i64 0, .int .i64 0, .int .i64 0]; have d1 := below_al (hb.trans a1.1) (.cells #[.int .i64 0, .int .i64 0, .int .i64 0] 27))
              | (go_at_call 19; (with_reducible refine (slot_none u0.heap.size 0 0 0 Tm.zero _ hC1' (by decide)).mono ?_); rintro e u2 ⟨rfl, a2⟩; have z0 := (hZ1.on a2).cell 0; have z1 := (hZ1.on a2).cell 1; have z2 := (hZ1.on a2).cell 2; have zl := (hZ1.on a2).lt; simp only [List.getElem?_toArray, List.getElem?_cons_zero, List.getElem?_cons_succ] at z0 z1 z2))
            go_roundw
            case rel => exact ⟨2, by omega, by go_num, Blk.on hC1' a2, hV1.on a2, below_then d1 a2⟩
            case measure => simp [intOf]
        · have hjd : decide ((j : Int) < 2) = false := decide_eq_false (by omega)
          clear hC hV
          go_wp2_with (go_at_call 9; (with_reducible refine (lives_clk _ ((HW.out.on HB1.out).on hb)).mono ?_); rintro e u2 ⟨rfl, c2⟩)
          go_ret
          exact ⟨rfl, below_then (below_then HB1.out hb) c2⟩
end Go.Proofs.YtonddecdeeikgaaDoor
