/-
  The walk of the law AgesVoid: it returns true, and nothing that was there has turned. No condition.
-/
import Derived.Test.YtcangipaoancnaaAs10
import Derived.BigQuiet
namespace Go.Proofs.Ytcangipaoancnaa
open Go.RowKit
set_option linter.unusedVariables false
set_option linter.unusedSimpArgs false

set_option maxRecDepth 100000 in
theorem elemClocks : Try.prog.underlying 124 = some (.slice 111) := by kernel_rfl
set_option maxRecDepth 100000 in
theorem idxClocks {A : Option Addr} {n : Nat} (c : Nat) {k b off : Nat} (hA : A = some ⟨b, off, none⟩) (hk : k < n) (w : World) :
    (Instr.indexAt 124 (.slice A n c) (.int .i64 (k : Int))).run Try.prog w = .ok (.pointer (some ⟨b, off + k, none⟩)) w := by
  subst hA
  rw [run_indexAt_slice (h := elemClocks), if_pos (by omega), show Try.prog.elem 124 = 111 by kernel_rfl, show (sizeOf 111).run Try.prog w = .ok 1 w by kernel_rfl]
  simp [Result.andThen, Addr.add_lit]
set_option maxRecDepth 100000 in
theorem elemP2 : Try.prog.underlying 119 = some (.array (Try.prog.arrayLen 119) (Try.prog.elem 119)) := by kernel_rfl
set_option maxRecDepth 100000 in
theorem idxP2 (b o j : Nat) (hj : j < 2) (w : World) :
    (Instr.indexAt 119 (.pointer (some ⟨b, o, none⟩)) (.int .i64 (j : Int))).run Try.prog w = .ok (.pointer (some ⟨b, o + j, none⟩)) w := by
  rw [run_indexAt_array (h := elemP2), show Try.prog.arrayLen 119 = 2 by kernel_rfl, if_pos (by omega), show Try.prog.elem 119 = 2 by kernel_rfl, show (sizeOf 2).run Try.prog w = .ok 1 w by kernel_rfl]
  simp [Result.andThen, Addr.add_lit]
set_option maxRecDepth 100000 in
set_option maxHeartbeats 4000000 in
theorem agesVoid_walk (z0 z1 : Int) (w : World) :
    Calls Try.prog 10 #[.agg #[.int .i64 z0, .int .i64 z1]] w fun e w' => e = .returned (.bool true) ∧ Below w.heap.size w w' := by
  go_enter Try.func10, Try.ntmps10
  go_wp2_with fail
  refine wp_at (fun U => Blk U w.heap.size 119 #[.int .i64 z0, .int .i64 z1] ∧ U.cell? ⟨w.heap.size + 1, 0, none⟩ = some (.slice none 0 0) ∧ Blk U (w.heap.size + 2) 111 #[.pointer none, .pointer (some ⟨w.heap.size + 1, 0, none⟩)] ∧ Below w.heap.size w U) ⟨((Blk.new w _ _).alloc _).alloc _, ?_, ?_, below_al (below_al (below_al (Below.refl _ w) _) _) _⟩ ?_
  · have h := Blk.new (w.alloc (.cells #[.int .i64 z0, .int .i64 z1] 119)) 123 #[.slice none 0 0]
    rw [alloc_size] at h
    exact (h.alloc _).cell 0
  · have h := Blk.new ((w.alloc (.cells #[.int .i64 z0, .int .i64 z1] 119)).alloc (.cells #[.slice none 0 0] 123)) 111 #[.pointer none, .pointer (some ⟨w.heap.size + 1, 0, none⟩)]
    rwa [alloc_size, alloc_size] at h
  obtain ⟨g0, hg0⟩ : ∃ g, g = w.heap.size := ⟨_, rfl⟩
  obtain ⟨g1, hg1⟩ : ∃ g, g = w.heap.size + 1 := ⟨_, rfl⟩
  obtain ⟨g2, hg2⟩ : ∃ g, g = w.heap.size + 2 := ⟨_, rfl⟩
  rintro V ⟨v1, v2, v3, v4⟩
  rw [← hg2, ← hg1] at v3
  rw [← hg1] at v2
  rw [← hg0] at v1
  have V1 := Lib.hid v1
  have V2 := Lib.hid v2
  have V3 := Lib.hid v3
  have V4 := Lib.hid v4
  have HG0 := Lib.hid hg0
  clear v1 v2 v3 v4
  rw [← hg2]
  rw [show (Value.pointer (some ⟨w.heap.size, 0, none⟩)) = .pointer (some ⟨g0, 0, none⟩) by rw [hg0]]
  clear hg0 hg1 hg2
  go_loopw [5, 6, 7] (fun sv av bv wr => ∃ k : Nat, k ≤ 2 ∧ sv = .int .i64 (k : Int) ∧ Hid (Below V.heap.size V wr)) (fun sv _ _ _ => 2 - (intOf sv).toNat)
  case atStart => exact ⟨0, by omega, rfl, Lib.hid (Below.refl _ _)⟩
  case round =>
    obtain ⟨k, hk, rfl, HW⟩ := hrel
    by_cases hlt : k < 2
    · have hd : decide ((k : Int) < 2) = true := decide_eq_true (by omega)
      have hix := fun W => idxClocks (A := some ⟨g2, 0, none⟩) (n := 2) 2 rfl hlt W
      simp only [Nat.zero_add] at hix
      have HP : ∃ p : Option Addr, (#[Value.pointer none, .pointer (some ⟨g1, 0, none⟩)] : Array Value)[k]? = some (.pointer p) ∧ (∀ u, Below V.heap.size V u → Calls Try.prog 47 #[.pointer p, .int .i64 z0, .int .i64 z1] u fun e w' => e = .returned (.tuple #[.int .i64 (-1), .int .i64 (-1)]) ∧ u = w') := by
        rcases (show k = 0 ∨ k = 1 by omega) with rfl | rfl
        · exact ⟨none, rfl, fun u hu => step_nil z0 z1 u⟩
        · exact ⟨some ⟨g1, 0, none⟩, rfl, fun u hu => step_zero z0 z1 g1 u (belowW hu V2.out)⟩
      obtain ⟨p, hp, hh⟩ := HP
      have HPC : Hid (∀ u, Below wr.heap.size wr u → u.cell? ⟨g2, k, none⟩ = some (.pointer p) ∧ g2 < u.heap.size) := Lib.hid (fun u hu => by have h2 := (V3.out.on HW.out).on hu; exact ⟨(h2.cell k).trans hp, h2.lt⟩)
      have HXB : Hid (∀ u, Below wr.heap.size wr u → Blk u g0 119 #[.int .i64 z0, .int .i64 z1]) := Lib.hid (fun u hu => (V1.out.on HW.out).on hu)
      have HH : Hid (∀ u, Below wr.heap.size wr u → Calls Try.prog 47 #[.pointer p, .int .i64 z0, .int .i64 z1] u fun e w' => e = .returned (.tuple #[.int .i64 (-1), .int .i64 (-1)]) ∧ u = w') := Lib.hid (fun u hu => hh u (below_then HW.out hu))
      clear hp hh
      go_upto_region 6 with fail
      refine Reg.wp_slots2 (fun tt => tt == 6 || tt == 7 || (decide (13 ≤ tt) && decide (tt ≤ 24))) (Reg.KJ wr.heap.size [] []) (Reg.KJ.drew _ (by simp)) Reg.KJ.trans (by kernel_rfl) (by kernel_rfl) (by kernel_rfl) (fun zz => (Reg.tblK [
        (14, .is (.slice (some ⟨g2, 0, none⟩) 2 2)),
        (15, .is (.int .i64 (k : Int))),
        (16, .is (.pointer (some ⟨g2, k, none⟩))),
        (17, .is (.pointer p)),
        (18, .is (.pointer (some ⟨g0, 0, none⟩))),
        (19, .is (.int .i64 z0)),
        (20, .is (.pointer (some ⟨g0, 1, none⟩))),
        (21, .is (.int .i64 z1)),
        (22, .is (.tuple #[.int .i64 (-1), .int .i64 (-1)])),
        (13, .is (.tuple #[.int .i64 (-1), .int .i64 (-1)])),
        (23, .is (.int .i64 (-1))),
        (24, .is (.int .i64 (-1))),
        (6, .is (.int .i64 (-1))),
        (7, .is (.int .i64 (-1)))] zz).P) (fun zz => (Reg.tblK _ zz).on) (fun zz => (Reg.memK [] zz).P) (fun zz => (Reg.memK _ zz).on) ?_ ?_
      · simp only [Reg.frame, Reg.over, Nat.reduceAdd, Nat.reduceBEq, Nat.reduceLeDiff, decide_true, decide_false, Bool.or_true, Bool.or_false, if_true, Bool.false_eq_true, if_false, Bool.and_true, Bool.and_false]
        refine ⟨?_, ?_, ?_, ?_, ?_, ?_, ?_, ?_, ?_, ?_, ?_, ?_, ?_, ?_, trivial⟩
        · intro y u hku hd
          refine wpOp_step rfl fun KK hK => ?_
          go_simp
          exact hK _ _ ⟨_, rfl, Reg.KJ.refl _, fun d hd => by cases hd; exact rfl, fun h => by cases h⟩
        · intro y u hku hd
          refine wpOp_step rfl fun KK hK => ?_
          go_simp
          exact hK _ _ ⟨_, rfl, Reg.KJ.refl _, fun d hd => by cases hd; exact rfl, fun h => by cases h⟩
        · intro y u hku hd
          have h14 : y 14 = .slice (some ⟨g2, 0, none⟩) 2 2 := hd 0 (by decide)
          have h15 : y 15 = .int .i64 (k : Int) := hd 1 (by decide)
          refine wpOp_step rfl fun KK hK => ?_
          simp only [h14, h15] at hK ⊢
          go_simp
          exact hK _ _ ⟨_, rfl, Reg.KJ.refl _, fun d hd => by cases hd; exact rfl, fun h => by cases h⟩
        · intro y u hku hd
          have h16 : y 16 = .pointer (some ⟨g2, k, none⟩) := hd 2 (by decide)
          obtain ⟨cp, lp⟩ := HPC.out u hku.below
          refine wpOp_step rfl fun KK hK => ?_
          simp only [h16] at hK ⊢
          go_simp
          exact hK _ _ ⟨_, rfl, Reg.KJ.refl _, fun d hd => by cases hd; exact rfl, fun h => by cases h⟩
        · intro y u hku hd
          have hx := HXB.out u hku.below
          have lx := hx.lt
          have hi : ∀ W, (Instr.indexAt 119 (.pointer (some ⟨g0, 0, none⟩)) (.int .i64 0)).run Try.prog W = .ok (.pointer (some ⟨g0, 0, none⟩)) W := fun W => idxP2 g0 0 0 (by decide) W
          refine wpOp_step rfl fun KK hK => ?_
          go_simp
          exact hK _ _ ⟨_, rfl, Reg.KJ.refl _, fun d hd => by cases hd; exact rfl, fun h => by cases h⟩
        · intro y u hku hd
          have h18 : y 18 = .pointer (some ⟨g0, 0, none⟩) := hd 4 (by decide)
          have cx := (HXB.out u hku.below).cell 0
          have lx := (HXB.out u hku.below).lt
          refine wpOp_step rfl fun KK hK => ?_
          simp only [h18] at hK ⊢
          go_simp
          exact hK _ _ ⟨_, rfl, Reg.KJ.refl _, fun d hd => by cases hd; exact rfl, fun h => by cases h⟩
        · intro y u hku hd
          have hx := HXB.out u hku.below
          have lx := hx.lt
          have hi : ∀ W, (Instr.indexAt 119 (.pointer (some ⟨g0, 0, none⟩)) (.int .i64 1)).run Try.prog W = .ok (.pointer (some ⟨g0, 1, none⟩)) W := fun W => idxP2 g0 0 1 (by decide) W
          refine wpOp_step rfl fun KK hK => ?_
          go_simp
          exact hK _ _ ⟨_, rfl, Reg.KJ.refl _, fun d hd => by cases hd; exact rfl, fun h => by cases h⟩
        · intro y u hku hd
          have h20 : y 20 = .pointer (some ⟨g0, 1, none⟩) := hd 6 (by decide)
          have cx := (HXB.out u hku.below).cell 1
          have lx := (HXB.out u hku.below).lt
          refine wpOp_step rfl fun KK hK => ?_
          simp only [h20] at hK ⊢
          go_simp
          exact hK _ _ ⟨_, rfl, Reg.KJ.refl _, fun d hd => by cases hd; exact rfl, fun h => by cases h⟩
        · intro y u hku hd
          have h17 : y 17 = .pointer p := hd 3 (by decide)
          have h19 : y 19 = .int .i64 z0 := hd 5 (by decide)
          have h21 : y 21 = .int .i64 z1 := hd 7 (by decide)
          refine wpOp_step rfl fun KK hK => ?_
          simp only [h17, h19, h21] at hK ⊢
          go_simp
          (with_reducible refine (HH.out u hku.below).mono ?_)
          rintro e u' ⟨rfl, rfl⟩
          exact hK _ _ ⟨_, rfl, Reg.KJ.refl _, fun d hd => by cases hd; exact rfl, fun h => by cases h⟩
        · intro y u hku hd
          have h22 : y 22 = .tuple #[.int .i64 (-1), .int .i64 (-1)] := hd 8 (by decide)
          refine wpOp_step rfl fun KK hK => ?_
          simp only [h22] at hK ⊢
          go_simp
          exact hK _ _ ⟨_, rfl, Reg.KJ.refl _, fun d hd => by cases hd; exact rfl, fun h => by cases h⟩
        · intro y u hku hd
          have h13 : y 13 = .tuple #[.int .i64 (-1), .int .i64 (-1)] := hd 9 (by decide)
          refine wpOp_step rfl fun KK hK => ?_
          simp only [h13] at hK ⊢
          go_simp
          exact hK _ _ ⟨_, rfl, Reg.KJ.refl _, fun d hd => by cases hd; exact rfl, fun h => by cases h⟩
        · intro y u hku hd
          have h13 : y 13 = .tuple #[.int .i64 (-1), .int .i64 (-1)] := hd 9 (by decide)
          refine wpOp_step rfl fun KK hK => ?_
          simp only [h13] at hK ⊢
          go_simp
          exact hK _ _ ⟨_, rfl, Reg.KJ.refl _, fun d hd => by cases hd; exact rfl, fun h => by cases h⟩
        · intro y u hku hd
          have h23 : y 23 = .int .i64 (-1) := hd 10 (by decide)
          refine wpOp_step rfl fun KK hK => ?_
          simp only [h23] at hK ⊢
          go_simp
          exact hK _ _ ⟨_, rfl, Reg.KJ.refl _, fun d hd => by cases hd; exact rfl, fun h => by cases h⟩
        · intro y u hku hd
          have h24 : y 24 = .int .i64 (-1) := hd 11 (by decide)
          refine wpOp_step rfl fun KK hK => ?_
          simp only [h24] at hK ⊢
          go_simp
          exact hK _ _ ⟨_, rfl, Reg.KJ.refl _, fun d hd => by cases hd; exact rfl, fun h => by cases h⟩
      · intro y u hku hall
        have e6 : y 6 = .int .i64 (-1) := hall 12 (by decide)
        have e7 : y 7 = .int .i64 (-1) := hall 13 (by decide)
        simp only [Reg.frame, Reg.over, Nat.reduceAdd, Nat.reduceBEq, Nat.reduceLeDiff, decide_true, decide_false, Bool.or_true, Bool.or_false, if_true, Bool.false_eq_true, if_false, Bool.and_true, Bool.and_false, e6, e7]
        have HKU := Lib.hid hku.below
        clear hku hall
        go_wp2_with fail
        go_roundw
        case rel => exact ⟨k + 1, by omega, by go_num, Lib.hid (below_then HW.out HKU.out)⟩
        case measure => simp [intOf]; omega
    · obtain rfl : k = 2 := by omega
      have hd : decide (((2 : Nat) : Int) < 2) = false := rfl
      go_wp2_with (go_at_call 42; (with_reducible refine (lives16_is _).mono ?_); rintro e w7 ⟨rfl, b7⟩)
      go_ret
      exact ⟨rfl, below_then (V4.out.trans (HW.out.mono V4.out.size)) b7⟩
end Go.Proofs.Ytcangipaoancnaa

