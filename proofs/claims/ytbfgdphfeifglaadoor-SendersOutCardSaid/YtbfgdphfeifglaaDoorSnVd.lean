/-
  The law SendersVoid, walked: without a net there is no sender; one that is not there, or that no call made, is silent: true; nothing that was there has turned. Condition: both tables are as the program's text lays them.
-/
import Derived.Test.YtbfgdphfeifglaaDoorSnLv
namespace Go.Proofs.YtbfgdphfeifglaaDoor
open Go.RowKit Rg
set_option linter.unusedVariables false

theorem Blk.newAt {w : World} {t : TypeId} {cs : Array Value} {g : Nat} (hg : g = w.heap.size) : Blk (w.alloc (.cells cs t)) g t cs := by subst hg; exact Blk.new w t cs
theorem elemNets : Tryd.prog.underlying 55 = some (.slice (Tryd.prog.elem 55)) := by kernel_rfl
theorem sizeNets (w : World) : (sizeOf (Tryd.prog.elem 55)).run Tryd.prog w = .ok 1 w := by kernel_rfl
theorem idxNets {A : Option Addr} {n : Nat} (c : Nat) {k b off : Nat} (hA : A = some ⟨b, off, none⟩) (hk : k < n) (w : World) :
    (Instr.indexAt 55 (.slice A n c) (.int .i64 (k : Int))).run Tryd.prog w = .ok (.pointer (some ⟨b, off + k, none⟩)) w := by
  subst hA
  rw [run_indexAt_slice (h := elemNets), if_pos (by omega), sizeNets]
  simp [Result.andThen, Addr.add_lit]
theorem elemSenders : Tryd.prog.underlying 64 = some (.slice (Tryd.prog.elem 64)) := by kernel_rfl
theorem sizeSenders (w : World) : (sizeOf (Tryd.prog.elem 64)).run Tryd.prog w = .ok 1 w := by kernel_rfl
theorem idxSenders {A : Option Addr} {n : Nat} (c : Nat) {k b off : Nat} (hA : A = some ⟨b, off, none⟩) (hk : k < n) (w : World) :
    (Instr.indexAt 64 (.slice A n c) (.int .i64 (k : Int))).run Tryd.prog w = .ok (.pointer (some ⟨b, off + k, none⟩)) w := by
  subst hA
  rw [run_indexAt_slice (h := elemSenders), if_pos (by omega), sizeSenders]
  simp [Result.andThen, Addr.add_lit]
theorem Blk.sd2 {w : World} {g : Nat} {a b : Sd} (h : Blk w g 33 #[.bool a.i, .int .i64 a.a, .int .u8 a.k, .int .u8 a.s, .int .u32 a.q, .int .u32 a.v, .bool b.i, .int .i64 b.a, .int .u8 b.k, .int .u8 b.s, .int .u32 b.q, .int .u32 b.v]) : w.cell? ⟨g, 0, none⟩ = some (.bool a.i) ∧ w.cell? ⟨g, 1, none⟩ = some (.int .i64 a.a) ∧ w.cell? ⟨g, 2, none⟩ = some (.int .u8 a.k) ∧ w.cell? ⟨g, 3, none⟩ = some (.int .u8 a.s) ∧ w.cell? ⟨g, 4, none⟩ = some (.int .u32 a.q) ∧ w.cell? ⟨g, 5, none⟩ = some (.int .u32 a.v) ∧ w.cell? ⟨g, 6, none⟩ = some (.bool b.i) ∧ w.cell? ⟨g, 7, none⟩ = some (.int .i64 b.a) ∧ w.cell? ⟨g, 8, none⟩ = some (.int .u8 b.k) ∧ w.cell? ⟨g, 9, none⟩ = some (.int .u8 b.s) ∧ w.cell? ⟨g, 10, none⟩ = some (.int .u32 b.q) ∧ w.cell? ⟨g, 11, none⟩ = some (.int .u32 b.v) ∧ g < w.heap.size :=
  ⟨(h.cell 0).trans rfl, (h.cell 1).trans rfl, (h.cell 2).trans rfl, (h.cell 3).trans rfl, (h.cell 4).trans rfl, (h.cell 5).trans rfl, (h.cell 6).trans rfl, (h.cell 7).trans rfl, (h.cell 8).trans rfl, (h.cell 9).trans rfl, (h.cell 10).trans rfl, (h.cell 11).trans rfl, h.lt⟩
theorem pay_zero (w : World) : (binOp .neq 30 (.agg #[.int .u8 0, .int .u8 0, .int .u32 0, .int .u32 0]) (.agg #[.int .u8 0, .int .u8 0, .int .u32 0, .int .u32 0])).run Tryd.prog w = .ok (.bool false) w := by kernel_rfl

set_option maxRecDepth 100000 in
set_option maxHeartbeats 4000000 in
theorem sendersVoid_walk (x0 x1 x2 : Int) (a b : Sd) (w : World) (hw : Laid2 w) :
    Calls Tryd.prog 4 #[.agg #[.int .i64 x0, .int .i64 x1, .int .i64 x2], .agg #[.bool a.i, .int .i64 a.a, .int .u8 a.k, .int .u8 a.s, .int .u32 a.q, .int .u32 a.v, .bool b.i, .int .i64 b.a, .int .u8 b.k, .int .u8 b.s, .int .u32 b.q, .int .u32 b.v]] w fun e w' => e = .returned (.bool true) ∧ Below w.heap.size w w' := by
  have HW := Lib.hid hw
  have HHE := Lib.hid (show halfE 0 [] x1 x0 = 2 from rfl)
  clear hw
  go_enter Tryd.func4, Tryd.ntmps4
  go_wp2_with fail
  go_loopw [9] (fun i wr => ∃ k : Nat, k ≤ 2 ∧ i = .int .i64 k ∧ Blk wr (w.heap.size) 26 #[.int .i64 x0, .int .i64 x1, .int .i64 x2] ∧ Blk wr (w.heap.size + 1) 33 #[.bool a.i, .int .i64 a.a, .int .u8 a.k, .int .u8 a.s, .int .u32 a.q, .int .u32 a.v, .bool b.i, .int .i64 b.a, .int .u8 b.k, .int .u8 b.s, .int .u32 b.q, .int .u32 b.v] ∧ Blk wr (w.heap.size + 2) 54 #[.int .i64 zeroCf.N, .slice zeroCf.pA zeroCf.pn zeroCf.pc, .slice zeroCf.sA zeroCf.sn zeroCf.sc, .int .i64 zeroCf.L, .slice zeroCf.bA zeroCf.bn zeroCf.bc, .slice zeroCf.tA zeroCf.tn zeroCf.tc, .int .i64 zeroCf.M, .int .i64 zeroCf.G, .int .i64 zeroCf.F, .int .i64 zeroCf.N, .slice zeroCf.pA zeroCf.pn zeroCf.pc, .slice zeroCf.sA zeroCf.sn zeroCf.sc, .int .i64 zeroCf.L, .slice zeroCf.bA zeroCf.bn zeroCf.bc, .slice zeroCf.tA zeroCf.tn zeroCf.tc, .int .i64 zeroCf.M, .int .i64 zeroCf.G, .int .i64 zeroCf.F] ∧ Blk wr (w.heap.size + 3) 34 #[.pointer none, .pointer (some ⟨w.heap.size + 2, 0, none⟩)] ∧ Blk wr (w.heap.size + 4) 63 senZ ∧ Blk wr (w.heap.size + 5) 37 #[.pointer none, .pointer (some ⟨w.heap.size + 4, 0, none⟩)] ∧ Below w.heap.size w wr) (fun i _ => 2 - (intOf i).toNat)
  case atStart => exact ⟨0, by omega, rfl, ((((Blk.new w _ _).alloc _).alloc _).alloc _).alloc _ |>.alloc _, ((((Blk.newAt (by simp)).alloc _).alloc _).alloc _).alloc _, (((Blk.newAt (by simp)).alloc _).alloc _).alloc _, ((Blk.newAt (by simp)).alloc _).alloc _, (Blk.newAt (by simp)).alloc _, Blk.newAt (by simp), below_al (below_al (below_al (below_al (below_al (below_al (Below.refl _ _) _) _) _) _) _) _⟩
  case round =>
    obtain ⟨k, hk, rfl, hX, hO, hN, hV, hS, hT, hb⟩ := hrel
    by_cases hlt : k < 2
    · obtain ⟨v, hv, hn⟩ : ∃ v, wr.cell? ⟨w.heap.size + 3, k, none⟩ = some v ∧ NetP wr v 0 [] := by
        rcases Nat.lt_succ_iff_lt_or_eq.1 hlt with q | q
        · obtain rfl : k = 0 := by omega
          exact ⟨_, hV.cell 0, zeroCf, .inl ⟨rfl, rfl⟩, rfl, rfl, .inl rfl⟩
        · subst q
          exact ⟨_, hV.cell 1, zeroCf, .inr ⟨_, zeroCf, rfl, hN, zero_in wr⟩, rfl, rfl, .inl rfl⟩
      obtain ⟨sv, hsv, hm⟩ : ∃ v, wr.cell? ⟨w.heap.size + 5, k, none⟩ = some v ∧ Mute wr v := by
        rcases Nat.lt_succ_iff_lt_or_eq.1 hlt with q | q
        · obtain rfl : k = 0 := by omega
          exact ⟨_, hT.cell 0, .inl rfl⟩
        · subst q
          exact ⟨_, hT.cell 1, .inr ⟨_, rfl, hS⟩⟩
      have hix := fun W => idxNets (n := 2) 2 (b := w.heap.size + 3) (off := 0) rfl hlt W
      have his := fun W => idxSenders (n := 2) 2 (b := w.heap.size + 5) (off := 0) rfl hlt W
      simp only [Nat.zero_add] at hix his
      have HVC := Lib.hid hv
      have HVL := Lib.hid hV.lt
      have HSC := Lib.hid hsv
      have HSL := Lib.hid hT.lt
      have HN1 := Lib.hid hn
      have HW1 := Lib.hid (HW.out.on hb)
      have HX1 := Lib.hid hX
      have HO1 := Lib.hid hO
      have HK1 := Lib.hid (And.intro hN (And.intro hV (And.intro hS hT)))
      have HM1 := Lib.hid hm
      have HB1 := Lib.hid hb
      clear hn hX hO hV hN hS hT hb hv hsv hm
      have hkd : decide ((k : Int) < 2) = true := decide_eq_true (by omega)
      go_wp2_with fail
      refine Reg.wp_slots (fun t => t == 10 || t == 11 || (decide (22 ≤ t) && decide (t ≤ 37))) (by kernel_rfl) (by kernel_rfl) (by kernel_rfl) (fun zz => (Reg.tbl [
        (23, .is (.slice (some ⟨w.heap.size + 3, 0, none⟩) 2 2)),
        (24, .is (.int .i64 k)),
        (25, .is (.pointer (some ⟨w.heap.size + 3, k, none⟩))),
        (26, .is (v)),
        (27, .is (.pointer (some ⟨w.heap.size, 0, none⟩))),
        (28, .is (.int .i64 x0)),
        (29, .is (.pointer (some ⟨w.heap.size, 1, none⟩))),
        (30, .is (.int .i64 x1)),
        (31, .is (.pointer (some ⟨w.heap.size + 1, 0, none⟩))),
        (32, .is (.agg #[.bool a.i, .int .i64 a.a, .int .u8 a.k, .int .u8 a.s, .int .u32 a.q, .int .u32 a.v])),
        (33, .is (.pointer (some ⟨w.heap.size + 1, 6, none⟩))),
        (34, .is (.agg #[.bool b.i, .int .i64 b.a, .int .u8 b.k, .int .u8 b.s, .int .u32 b.q, .int .u32 b.v])),
        (35, .is (.tuple #[.pointer none, .int .i64 2])),
        (22, .is (.tuple #[.pointer none, .int .i64 2])),
        (36, .is (.pointer none)),
        (37, .is (.int .i64 2)),
        (10, .is (.pointer none)),
        (11, .is (.int .i64 2))] zz).P) (fun zz => (Reg.tbl _ zz).on) ?_ ?_
      · simp only [Reg.frame, Reg.over, Nat.reduceAdd, Nat.reduceBEq, Nat.reduceLeDiff, decide_true, decide_false, Bool.or_true, Bool.or_false, if_true, Bool.false_eq_true, if_false, Bool.and_true, Bool.and_false]
        refine ⟨?_, ?_, ?_, ?_, ?_, ?_, ?_, ?_, ?_, ?_, ?_, ?_, ?_, ?_, ?_, ?_, ?_, ?_, trivial⟩
        · intro x u hbu hd
          refine wpOp_step rfl fun K hK => ?_
          go_simp
          exact hK _ _ ⟨_, rfl, Below.refl _ _, fun d hd => by cases hd; exact rfl⟩
        · intro x u hbu hd
          refine wpOp_step rfl fun K hK => ?_
          go_simp
          exact hK _ _ ⟨_, rfl, Below.refl _ _, fun d hd => by cases hd; exact rfl⟩
        · intro x u hbu hd
          have h23 : x 23 = .slice (some ⟨w.heap.size + 3, 0, none⟩) 2 2 := hd 0 (by decide)
          have h24 : x 24 = .int .i64 k := hd 1 (by decide)
          refine wpOp_step rfl fun K hK => ?_
          simp only [h23, h24] at hK ⊢
          go_simp
          exact hK _ _ ⟨_, rfl, Below.refl _ _, fun d hd => by cases hd; exact rfl⟩
        · intro x u hbu hd
          have h25 : x 25 = .pointer (some ⟨w.heap.size + 3, k, none⟩) := hd 2 (by decide)
          have hv := (hbu.cell (p := ⟨w.heap.size + 3, k, none⟩) HVL.out).trans HVC.out
          refine wpOp_step rfl fun K hK => ?_
          simp only [h25] at hK ⊢
          go_simp
          exact hK _ _ ⟨_, rfl, Below.refl _ _, fun d hd => by cases hd; exact rfl⟩
        · intro x u hbu hd
          refine wpOp_step rfl fun K hK => ?_
          go_simp
          exact hK _ _ ⟨_, rfl, Below.refl _ _, fun d hd => by cases hd; exact rfl⟩
        · intro x u hbu hd
          have h27 : x 27 = .pointer (some ⟨w.heap.size, 0, none⟩) := hd 4 (by decide)
          have xc := ((HX1.out.on hbu).cell 0).trans rfl
          have xl := (HX1.out.on hbu).lt
          refine wpOp_step rfl fun K hK => ?_
          simp only [h27] at hK ⊢
          go_simp
          exact hK _ _ ⟨_, rfl, Below.refl _ _, fun d hd => by cases hd; exact rfl⟩
        · intro x u hbu hd
          refine wpOp_step rfl fun K hK => ?_
          go_simp
          exact hK _ _ ⟨_, rfl, Below.refl _ _, fun d hd => by cases hd; exact rfl⟩
        · intro x u hbu hd
          have h29 : x 29 = .pointer (some ⟨w.heap.size, 1, none⟩) := hd 6 (by decide)
          have xc := ((HX1.out.on hbu).cell 1).trans rfl
          have xl := (HX1.out.on hbu).lt
          refine wpOp_step rfl fun K hK => ?_
          simp only [h29] at hK ⊢
          go_simp
          exact hK _ _ ⟨_, rfl, Below.refl _ _, fun d hd => by cases hd; exact rfl⟩
        · intro x u hbu hd
          refine wpOp_step rfl fun K hK => ?_
          go_simp
          exact hK _ _ ⟨_, rfl, Below.refl _ _, fun d hd => by cases hd; exact rfl⟩
        · intro x u hbu hd
          have h31 : x 31 = .pointer (some ⟨w.heap.size + 1, 0, none⟩) := hd 8 (by decide)
          obtain ⟨o0, o1, o2, o3, o4, o5, o6, o7, o8, o9, oa, ob, ol⟩ := (HO1.out.on hbu).sd2
          refine wpOp_step rfl fun K hK => ?_
          simp only [h31] at hK ⊢
          go_simp
          exact hK _ _ ⟨_, rfl, Below.refl _ _, fun d hd => by cases hd; exact rfl⟩
        · intro x u hbu hd
          refine wpOp_step rfl fun K hK => ?_
          go_simp
          exact hK _ _ ⟨_, rfl, Below.refl _ _, fun d hd => by cases hd; exact rfl⟩
        · intro x u hbu hd
          have h33 : x 33 = .pointer (some ⟨w.heap.size + 1, 6, none⟩) := hd 10 (by decide)
          obtain ⟨o0, o1, o2, o3, o4, o5, o6, o7, o8, o9, oa, ob, ol⟩ := (HO1.out.on hbu).sd2
          refine wpOp_step rfl fun K hK => ?_
          simp only [h33] at hK ⊢
          go_simp
          exact hK _ _ ⟨_, rfl, Below.refl _ _, fun d hd => by cases hd; exact rfl⟩
        · intro x u hbu hd
          have h26 : x 26 = v := hd 3 (by decide)
          have h28 : x 28 = .int .i64 x0 := hd 5 (by decide)
          have h30 : x 30 = .int .i64 x1 := hd 7 (by decide)
          have h32 : x 32 = .agg #[.bool a.i, .int .i64 a.a, .int .u8 a.k, .int .u8 a.s, .int .u32 a.q, .int .u32 a.v] := hd 9 (by decide)
          have h34 : x 34 = .agg #[.bool b.i, .int .i64 b.a, .int .u8 b.k, .int .u8 b.s, .int .u32 b.q, .int .u32 b.v] := hd 11 (by decide)
          refine wpOp_step rfl fun K hK => ?_
          simp only [h26, h28, h30, h32, h34] at hK ⊢
          go_simp
          with_reducible refine (new_bad v 0 [] x0 x1 a b 2 HHE.out (by decide) _ (HN1.out.on hbu) (HW1.out.on hbu)).mono ?_
          rintro e u' ⟨rfl, hb'⟩
          exact hK _ _ ⟨_, rfl, hb', fun d hd => by cases hd; exact rfl⟩
        · intro x u hbu hd
          have h35 : x 35 = .tuple #[.pointer none, .int .i64 2] := hd 12 (by decide)
          refine wpOp_step rfl fun K hK => ?_
          simp only [h35] at hK ⊢
          go_simp
          exact hK _ _ ⟨_, rfl, Below.refl _ _, fun d hd => by cases hd; exact rfl⟩
        · intro x u hbu hd
          have h22 : x 22 = .tuple #[.pointer none, .int .i64 2] := hd 13 (by decide)
          refine wpOp_step rfl fun K hK => ?_
          simp only [h22] at hK ⊢
          go_simp
          exact hK _ _ ⟨_, rfl, Below.refl _ _, fun d hd => by cases hd; exact rfl⟩
        · intro x u hbu hd
          have h22 : x 22 = .tuple #[.pointer none, .int .i64 2] := hd 13 (by decide)
          refine wpOp_step rfl fun K hK => ?_
          simp only [h22] at hK ⊢
          go_simp
          exact hK _ _ ⟨_, rfl, Below.refl _ _, fun d hd => by cases hd; exact rfl⟩
        · intro x u hbu hd
          have h36 : x 36 = .pointer none := hd 14 (by decide)
          refine wpOp_step rfl fun K hK => ?_
          simp only [h36] at hK ⊢
          go_simp
          exact hK _ _ ⟨_, rfl, Below.refl _ _, fun d hd => by cases hd; exact rfl⟩
        · intro x u hbu hd
          have h37 : x 37 = .int .i64 2 := hd 15 (by decide)
          refine wpOp_step rfl fun K hK => ?_
          simp only [h37] at hK ⊢
          go_simp
          exact hK _ _ ⟨_, rfl, Below.refl _ _, fun d hd => by cases hd; exact rfl⟩
      · intro y u2 hbu hall
        have h10 : y 10 = .pointer none := hall 16 (by decide)
        have h11 : y 11 = .int .i64 2 := hall 17 (by decide)
        simp only [Reg.frame, Reg.over, Nat.reduceAdd, Nat.reduceBEq, Nat.reduceLeDiff, decide_true, decide_false, Bool.or_true, Bool.or_false, if_true, Bool.false_eq_true, if_false, Bool.and_true, Bool.and_false, h10, h11]
        have HA1 := Lib.hid hbu
        have HM2 := Lib.hid (HM1.out.on hbu)
        clear hbu hall h10 h11 hix
        go_wp2_with fail
        refine Reg.wp_slots (fun t => t == 12 || t == 13 || (decide (38 ≤ t) && decide (t ≤ 47))) (by kernel_rfl) (by kernel_rfl) (by kernel_rfl) (fun zz => (Reg.tbl [
          (39, .is (.slice (some ⟨w.heap.size + 5, 0, none⟩) 2 2)),
          (40, .is (.int .i64 k)),
          (41, .is (.pointer (some ⟨w.heap.size + 5, k, none⟩))),
          (42, .is (sv)),
          (43, .is (.pointer (some ⟨w.heap.size, 2, none⟩))),
          (44, .is (.int .i64 x2)),
          (45, .is (.tuple #[.int .u8 0, .int .u8 0])),
          (38, .is (.tuple #[.int .u8 0, .int .u8 0])),
          (46, .is (.int .u8 0)),
          (47, .is (.int .u8 0)),
          (12, .is (.int .u8 0)),
          (13, .is (.int .u8 0))] zz).P) (fun zz => (Reg.tbl _ zz).on) ?_ ?_
        · simp only [Reg.frame, Reg.over, Nat.reduceAdd, Nat.reduceBEq, Nat.reduceLeDiff, decide_true, decide_false, Bool.or_true, Bool.or_false, if_true, Bool.false_eq_true, if_false, Bool.and_true, Bool.and_false]
          refine ⟨?_, ?_, ?_, ?_, ?_, ?_, ?_, ?_, ?_, ?_, ?_, ?_, trivial⟩
          · intro x u hbu hd
            refine wpOp_step rfl fun K hK => ?_
            go_simp
            exact hK _ _ ⟨_, rfl, Below.refl _ _, fun d hd => by cases hd; exact rfl⟩
          · intro x u hbu hd
            refine wpOp_step rfl fun K hK => ?_
            go_simp
            exact hK _ _ ⟨_, rfl, Below.refl _ _, fun d hd => by cases hd; exact rfl⟩
          · intro x u hbu hd
            have h39 : x 39 = .slice (some ⟨w.heap.size + 5, 0, none⟩) 2 2 := hd 0 (by decide)
            have h40 : x 40 = .int .i64 k := hd 1 (by decide)
            refine wpOp_step rfl fun K hK => ?_
            simp only [h39, h40] at hK ⊢
            go_simp
            exact hK _ _ ⟨_, rfl, Below.refl _ _, fun d hd => by cases hd; exact rfl⟩
          · intro x u hbu hd
            have h41 : x 41 = .pointer (some ⟨w.heap.size + 5, k, none⟩) := hd 2 (by decide)
            have hv := ((below_then HA1.out hbu).cell (p := ⟨w.heap.size + 5, k, none⟩) HSL.out).trans HSC.out
            refine wpOp_step rfl fun K hK => ?_
            simp only [h41] at hK ⊢
            go_simp
            exact hK _ _ ⟨_, rfl, Below.refl _ _, fun d hd => by cases hd; exact rfl⟩
          · intro x u hbu hd
            refine wpOp_step rfl fun K hK => ?_
            go_simp
            exact hK _ _ ⟨_, rfl, Below.refl _ _, fun d hd => by cases hd; exact rfl⟩
          · intro x u hbu hd
            have h43 : x 43 = .pointer (some ⟨w.heap.size, 2, none⟩) := hd 4 (by decide)
            have xc := (((HX1.out.on HA1.out).on hbu).cell 2).trans rfl
            have xl := ((HX1.out.on HA1.out).on hbu).lt
            refine wpOp_step rfl fun K hK => ?_
            simp only [h43] at hK ⊢
            go_simp
            exact hK _ _ ⟨_, rfl, Below.refl _ _, fun d hd => by cases hd; exact rfl⟩
          · intro x u hbu hd
            have h42 : x 42 = sv := hd 3 (by decide)
            have h44 : x 44 = .int .i64 x2 := hd 5 (by decide)
            refine wpOp_step rfl fun K hK => ?_
            simp only [h42, h44] at hK ⊢
            go_simp
            with_reducible refine (out_mute sv x2 _ (HM2.out.on hbu)).mono ?_
            rintro e u' ⟨rfl, hb'⟩
            exact hK _ _ ⟨_, rfl, hb', fun d hd => by cases hd; exact rfl⟩
          · intro x u hbu hd
            have h45 : x 45 = .tuple #[.int .u8 0, .int .u8 0] := hd 6 (by decide)
            refine wpOp_step rfl fun K hK => ?_
            simp only [h45] at hK ⊢
            go_simp
            exact hK _ _ ⟨_, rfl, Below.refl _ _, fun d hd => by cases hd; exact rfl⟩
          · intro x u hbu hd
            have h38 : x 38 = .tuple #[.int .u8 0, .int .u8 0] := hd 7 (by decide)
            refine wpOp_step rfl fun K hK => ?_
            simp only [h38] at hK ⊢
            go_simp
            exact hK _ _ ⟨_, rfl, Below.refl _ _, fun d hd => by cases hd; exact rfl⟩
          · intro x u hbu hd
            have h38 : x 38 = .tuple #[.int .u8 0, .int .u8 0] := hd 7 (by decide)
            refine wpOp_step rfl fun K hK => ?_
            simp only [h38] at hK ⊢
            go_simp
            exact hK _ _ ⟨_, rfl, Below.refl _ _, fun d hd => by cases hd; exact rfl⟩
          · intro x u hbu hd
            have h46 : x 46 = .int .u8 0 := hd 8 (by decide)
            refine wpOp_step rfl fun K hK => ?_
            simp only [h46] at hK ⊢
            go_simp
            exact hK _ _ ⟨_, rfl, Below.refl _ _, fun d hd => by cases hd; exact rfl⟩
          · intro x u hbu hd
            have h47 : x 47 = .int .u8 0 := hd 9 (by decide)
            refine wpOp_step rfl fun K hK => ?_
            simp only [h47] at hK ⊢
            go_simp
            exact hK _ _ ⟨_, rfl, Below.refl _ _, fun d hd => by cases hd; exact rfl⟩
        · intro z u3 hbu hall
          have h12 : z 12 = .int .u8 0 := hall 10 (by decide)
          have h13 : z 13 = .int .u8 0 := hall 11 (by decide)
          simp only [Reg.frame, Reg.over, Nat.reduceAdd, Nat.reduceBEq, Nat.reduceLeDiff, decide_true, decide_false, Bool.or_true, Bool.or_false, if_true, Bool.false_eq_true, if_false, Bool.and_true, Bool.and_false, h12, h13]
          have hA2 := below_then HA1.out hbu
          have HA2 := Lib.hid hA2
          have hv := (hA2.cell (p := ⟨w.heap.size + 5, k, none⟩) HSL.out).trans HSC.out
          have hvl : w.heap.size + 5 < u3.heap.size := Nat.lt_of_lt_of_le HSL.out hA2.size
          have HM3 := Lib.hid (HM1.out.on hA2)
          have q1 := pay_zero
          clear hbu hall h12 h13 hA2
          go_wp2_with (go_at_call 11; (with_reducible refine (sends_mute sv _ HM3.out).mono ?_); rintro e u4 ⟨rfl, b4⟩; have hA4 := below_al (below_then HA2.out b4) (.cells #[.int .u8 0, .int .u8 0, .int .u32 0, .int .u32 0] 30); have hP4 := Blk.new u4 30 #[.int .u8 0, .int .u8 0, .int .u32 0, .int .u32 0]; obtain ⟨y0, y1, y2, y3, yl⟩ := hP4.py4)
          go_roundw
          case rel =>
            obtain ⟨hN, hV, hS, hT⟩ := HK1.out
            exact ⟨k + 1, by omega, by go_num, HX1.out.on hA4, HO1.out.on hA4, hN.on hA4, hV.on hA4, hS.on hA4, hT.on hA4, below_then HB1.out hA4⟩
          case measure => simp [intOf]; omega
    · obtain rfl : k = 2 := by omega
      have hW := HW.out.on hb
      go_wp2_with (go_at_call 8; (with_reducible refine (lives_sn _ hW).mono ?_); rintro e w9 ⟨rfl, b9⟩)
      go_ret
      exact ⟨rfl, below_then hb b9⟩
end Go.Proofs.YtbfgdphfeifglaaDoor

