/-
  The law's words of stage 15 on vectors: Same, spoil. Conditions: the vectors' readings.
-/
import Derived.Test.YtdbljggjddnjcaaAgR2
namespace Go.Proofs.Ytdbljggjddnjcaa
open Go.RowKit
set_option linter.unusedVariables false
set_option linter.unusedSimpArgs false

set_option maxRecDepth 100000 in
set_option maxHeartbeats 4000000 in
theorem same15_is (A B : Option Addr) (n c d : Nat) (hn : n ≤ 65536) (T : Nat → He) (w : World) (hA : LiesH w w.heap.size A n T) (hB : LiesH w w.heap.size B n T) :
    Calls Try.prog 44 #[.slice A n c, .slice B n d] w fun e w' => e = .returned (.bool true) ∧ Below w.heap.size w w' := by
  have HA := Lib.hid hA
  have HB := Lib.hid hB
  have hnn : ((n : Int) != (n : Int)) = false := by simp
  clear hA hB
  go_enter Try.func44, Try.ntmps44
  go_wp2_with fail
  go_loopw [5] (fun s wr => ∃ k : Nat, k ≤ n ∧ s = .int .i64 (k : Int) ∧ Hid (Below w.heap.size w wr)) (fun s _ => n - (intOf s).toNat)
  case atStart => exact ⟨0, by omega, rfl, Lib.hid (Below.refl _ _)⟩
  case round =>
    obtain ⟨k, hk, rfl, HW⟩ := hrel
    by_cases hlt : k < n
    · obtain ⟨ba, oa, hA, hba, hca⟩ := HA.out (by omega)
      obtain ⟨bb, ob, hB, hbb, hcb⟩ := HB.out (by omega)
      have hix := fun W => idxHelds (A := A) (n := n) c hA hlt W
      have hix2 := fun W => idxRHelds (A := B) (n := n) d hB hlt W
      obtain ⟨⟨xi, xc⟩, hx⟩ : ∃ x, x = T k := ⟨_, rfl⟩
      have HRA : Hid (∀ u, Below wr.heap.size wr u → u.cell? ⟨ba, oa + k * 56, none⟩ = some (.bool xi) ∧ u.rangeAt ba (oa + k * 56 + 1) (ceL xc) ∧ ba < u.heap.size) := Lib.hid (fun u hu => by
        have hz : w.rangeAt ba (oa + k * 56) (heL ⟨xi, xc⟩) := by rw [hx]; exact hca k hlt
        have hb := HW.out.trans (hu.mono HW.out.size)
        exact ⟨(hb.cell (p := ⟨ba, _, none⟩) hba).trans (hz 0 _ rfl), fun j v hv => (hb.cell (p := ⟨ba, _, none⟩) hba).trans (by have := hz (1 + j) v (by rw [Nat.add_comm]; exact hv); rwa [← Nat.add_assoc] at this), Nat.lt_of_lt_of_le hba hb.size⟩)
      have HRB : Hid (∀ u, Below wr.heap.size wr u → u.cell? ⟨bb, ob + k * 56, none⟩ = some (.bool xi) ∧ u.rangeAt bb (ob + k * 56 + 1) (ceL xc) ∧ bb < u.heap.size) := Lib.hid (fun u hu => by
        have hz : w.rangeAt bb (ob + k * 56) (heL ⟨xi, xc⟩) := by rw [hx]; exact hcb k hlt
        have hb := HW.out.trans (hu.mono HW.out.size)
        exact ⟨(hb.cell (p := ⟨bb, _, none⟩) hbb).trans (hz 0 _ rfl), fun j v hv => (hb.cell (p := ⟨bb, _, none⟩) hbb).trans (by have := hz (1 + j) v (by rw [Nat.add_comm]; exact hv); rwa [← Nat.add_assoc] at this), Nat.lt_of_lt_of_le hbb hb.size⟩)
      have HNE : Hid (∀ W, (binOp .neq 51 (.agg (ceL xc).toArray) (.agg (ceL xc).toArray)).run Try.prog W = .ok (.bool false) W) := Lib.hid (fun W => by have := cell_neq xc xc W; rwa [show ceE xc xc = true from (ceE_iff _ _).2 rfl] at this)
      have HNB : Hid ((xi != xi) = false) := Lib.hid (by simp)
      clear hx hca hcb hA hB hba hbb
      go_wp2_with fail
      refine Reg.wp_slots2 (fun t => decide (17 ≤ t) && decide (t ≤ 40)) (Reg.KJ wr.heap.size [] []) (Reg.KJ.drew _ (by simp)) Reg.KJ.trans (by kernel_rfl) (by kernel_rfl) (by kernel_rfl) (fun zz => (Reg.tblK [
        (17, .is (.slice A n c)),
        (18, .is (.int .i64 (k : Int))),
        (19, .is (.pointer (some ⟨ba, oa + k * 56, none⟩))),
        (20, .is (.pointer (some ⟨ba, oa + k * 56, none⟩))),
        (21, .is (.bool xi)),
        (22, .is (.slice B n d)),
        (23, .is (.int .i64 (k : Int))),
        (24, .is (.pointer (some ⟨bb, ob + k * 56, none⟩))),
        (25, .is (.pointer (some ⟨bb, ob + k * 56, none⟩))),
        (26, .is (.bool xi)),
        (27, .is (.bool false)),
        (28, .is (.bool false)),
        (29, .is (.slice A n c)),
        (30, .is (.int .i64 (k : Int))),
        (31, .is (.pointer (some ⟨ba, oa + k * 56, none⟩))),
        (32, .is (.pointer (some ⟨ba, oa + k * 56 + 1, none⟩))),
        (33, .is (.agg (ceL xc).toArray)),
        (34, .is (.slice B n d)),
        (35, .is (.int .i64 (k : Int))),
        (36, .is (.pointer (some ⟨bb, ob + k * 56, none⟩))),
        (37, .is (.pointer (some ⟨bb, ob + k * 56 + 1, none⟩))),
        (38, .is (.agg (ceL xc).toArray)),
        (39, .is (.bool false)),
        (40, .is (.bool false))] zz).P) (fun zz => (Reg.tblK _ zz).on) (fun zz => (Reg.memK [] zz).P) (fun zz => (Reg.memK _ zz).on) ?_ ?_
      · simp only [Reg.frame, Reg.over, Nat.reduceAdd, Nat.reduceLeDiff, decide_true, decide_false, if_true, Bool.false_eq_true, if_false, Bool.and_true, Bool.and_false]
        refine ⟨?_, ?_, ?_, ?_, ?_, ?_, ?_, ?_, ?_, ?_, ?_, ?_, ?_, ?_, ?_, ?_, ?_, ?_, ?_, ?_, ?_, ?_, ?_, ?_, trivial⟩
        · intro x u hku hd
          refine wpOp_step rfl fun KK hK => ?_
          go_simp
          exact hK _ _ ⟨_, rfl, Reg.KJ.refl _, fun d hd => by cases hd; exact rfl, fun h => by cases h⟩
        · intro x u hku hd
          refine wpOp_step rfl fun KK hK => ?_
          go_simp
          exact hK _ _ ⟨_, rfl, Reg.KJ.refl _, fun d hd => by cases hd; exact rfl, fun h => by cases h⟩
        · intro x u hku hd
          have h17 : x 17 = .slice A n c := hd 0 (by decide)
          have h18 : x 18 = .int .i64 (k : Int) := hd 1 (by decide)
          refine wpOp_step rfl fun KK hK => ?_
          simp only [h17, h18] at hK ⊢
          go_simp
          exact hK _ _ ⟨_, rfl, Reg.KJ.refl _, fun d hd => by cases hd; exact rfl, fun h => by cases h⟩
        · intro x u hku hd
          have h19 : x 19 = .pointer (some ⟨ba, oa + k * 56, none⟩) := hd 2 (by decide)
          refine wpOp_step rfl fun KK hK => ?_
          simp only [h19] at hK ⊢
          go_simp
          exact hK _ _ ⟨_, rfl, Reg.KJ.refl _, fun d hd => by cases hd; exact rfl, fun h => by cases h⟩
        · intro x u hku hd
          have h20 : x 20 = .pointer (some ⟨ba, oa + k * 56, none⟩) := hd 3 (by decide)
          obtain ⟨ca, _, la⟩ := HRA.out u hku.below
          refine wpOp_step rfl fun KK hK => ?_
          simp only [h20] at hK ⊢
          go_simp
          exact hK _ _ ⟨_, rfl, Reg.KJ.refl _, fun d hd => by cases hd; exact rfl, fun h => by cases h⟩
        · intro x u hku hd
          refine wpOp_step rfl fun KK hK => ?_
          go_simp
          exact hK _ _ ⟨_, rfl, Reg.KJ.refl _, fun d hd => by cases hd; exact rfl, fun h => by cases h⟩
        · intro x u hku hd
          refine wpOp_step rfl fun KK hK => ?_
          go_simp
          exact hK _ _ ⟨_, rfl, Reg.KJ.refl _, fun d hd => by cases hd; exact rfl, fun h => by cases h⟩
        · intro x u hku hd
          have h22 : x 22 = .slice B n d := hd 5 (by decide)
          have h23 : x 23 = .int .i64 (k : Int) := hd 6 (by decide)
          refine wpOp_step rfl fun KK hK => ?_
          simp only [h22, h23] at hK ⊢
          go_simp
          exact hK _ _ ⟨_, rfl, Reg.KJ.refl _, fun d hd => by cases hd; exact rfl, fun h => by cases h⟩
        · intro x u hku hd
          have h24 : x 24 = .pointer (some ⟨bb, ob + k * 56, none⟩) := hd 7 (by decide)
          refine wpOp_step rfl fun KK hK => ?_
          simp only [h24] at hK ⊢
          go_simp
          exact hK _ _ ⟨_, rfl, Reg.KJ.refl _, fun d hd => by cases hd; exact rfl, fun h => by cases h⟩
        · intro x u hku hd
          have h25 : x 25 = .pointer (some ⟨bb, ob + k * 56, none⟩) := hd 8 (by decide)
          obtain ⟨cb, _, lb⟩ := HRB.out u hku.below
          refine wpOp_step rfl fun KK hK => ?_
          simp only [h25] at hK ⊢
          go_simp
          exact hK _ _ ⟨_, rfl, Reg.KJ.refl _, fun d hd => by cases hd; exact rfl, fun h => by cases h⟩
        · intro x u hku hd
          have h21 : x 21 = .bool xi := hd 4 (by decide)
          have h26 : x 26 = .bool xi := hd 9 (by decide)
          have hnb := HNB.out
          refine wpOp_step rfl fun KK hK => ?_
          simp only [h21, h26] at hK ⊢
          go_simp
          exact hK _ _ ⟨_, rfl, Reg.KJ.refl _, fun d hd => by cases hd; exact rfl, fun h => by cases h⟩
        · intro x u hku hd
          have h27 : x 27 = .bool false := hd 10 (by decide)
          refine wpOp_step rfl fun KK hK => ?_
          simp only [h27] at hK ⊢
          go_simp
          exact hK _ _ ⟨_, rfl, Reg.KJ.refl _, fun d hd => by cases hd; exact rfl, fun h => by cases h⟩
        · intro x u hku hd
          have h28 : x 28 = .bool false := hd 11 (by decide)
          refine wpOp_step rfl fun KK hK => ?_
          simp only [h28] at hK ⊢
          go_simp
          exact hK _ _ ⟨_, rfl, Reg.KJ.refl _, fun d hd => by cases hd; exact rfl, fun h => by cases h⟩
        · intro x u hku hd
          have h28 : x 28 = .bool false := hd 11 (by decide)
          refine wpOp_step rfl fun KK hK => ?_
          simp only [h28] at hK ⊢
          go_simp
          exact hK _ _ ⟨_, rfl, Reg.KJ.refl _, fun d hd => by cases hd; exact rfl, fun h => by cases h⟩
        · intro x u hku hd
          have h29 : x 29 = .slice A n c := hd 12 (by decide)
          have h30 : x 30 = .int .i64 (k : Int) := hd 13 (by decide)
          have h28 : x 28 = .bool false := hd 11 (by decide)
          refine wpOp_step rfl fun KK hK => ?_
          simp only [h29, h30, h28] at hK ⊢
          go_simp
          exact hK _ _ ⟨_, rfl, Reg.KJ.refl _, fun d hd => by cases hd; exact rfl, fun h => by cases h⟩
        · intro x u hku hd
          have h31 : x 31 = .pointer (some ⟨ba, oa + k * 56, none⟩) := hd 14 (by decide)
          have h28 : x 28 = .bool false := hd 11 (by decide)
          refine wpOp_step rfl fun KK hK => ?_
          simp only [h31, h28] at hK ⊢
          go_simp
          exact hK _ _ ⟨_, rfl, Reg.KJ.refl _, fun d hd => by cases hd; exact rfl, fun h => by cases h⟩
        · intro x u hku hd
          have h32 : x 32 = .pointer (some ⟨ba, oa + k * 56 + 1, none⟩) := hd 15 (by decide)
          have h28 : x 28 = .bool false := hd 11 (by decide)
          refine wpOp_step rfl fun KK hK => ?_
          refine Reg.step_load_wantT (by simp only [h28]; kernel_rfl) 51 (.tmp 32) (by rfl) ba (oa + k * 56 + 1) (by exact h32) (ceL xc) (HRA.out u hku.below).2.1 _ Try.underlying51 rfl (by rw [size_ce, ceL_len]) ?_
          exact hK _ _ ⟨_, rfl, Reg.KJ.refl _, fun d hd => by cases hd; exact rfl, fun h => by cases h⟩
        · intro x u hku hd
          have h28 : x 28 = .bool false := hd 11 (by decide)
          refine wpOp_step rfl fun KK hK => ?_
          simp only [h28] at hK ⊢
          go_simp
          exact hK _ _ ⟨_, rfl, Reg.KJ.refl _, fun d hd => by cases hd; exact rfl, fun h => by cases h⟩
        · intro x u hku hd
          have h28 : x 28 = .bool false := hd 11 (by decide)
          refine wpOp_step rfl fun KK hK => ?_
          simp only [h28] at hK ⊢
          go_simp
          exact hK _ _ ⟨_, rfl, Reg.KJ.refl _, fun d hd => by cases hd; exact rfl, fun h => by cases h⟩
        · intro x u hku hd
          have h34 : x 34 = .slice B n d := hd 17 (by decide)
          have h35 : x 35 = .int .i64 (k : Int) := hd 18 (by decide)
          have h28 : x 28 = .bool false := hd 11 (by decide)
          refine wpOp_step rfl fun KK hK => ?_
          simp only [h34, h35, h28] at hK ⊢
          go_simp
          exact hK _ _ ⟨_, rfl, Reg.KJ.refl _, fun d hd => by cases hd; exact rfl, fun h => by cases h⟩
        · intro x u hku hd
          have h36 : x 36 = .pointer (some ⟨bb, ob + k * 56, none⟩) := hd 19 (by decide)
          have h28 : x 28 = .bool false := hd 11 (by decide)
          refine wpOp_step rfl fun KK hK => ?_
          simp only [h36, h28] at hK ⊢
          go_simp
          exact hK _ _ ⟨_, rfl, Reg.KJ.refl _, fun d hd => by cases hd; exact rfl, fun h => by cases h⟩
        · intro x u hku hd
          have h37 : x 37 = .pointer (some ⟨bb, ob + k * 56 + 1, none⟩) := hd 20 (by decide)
          have h28 : x 28 = .bool false := hd 11 (by decide)
          refine wpOp_step rfl fun KK hK => ?_
          refine Reg.step_load_wantT (by simp only [h28]; kernel_rfl) 51 (.tmp 37) (by rfl) bb (ob + k * 56 + 1) (by exact h37) (ceL xc) (HRB.out u hku.below).2.1 _ Try.underlying51 rfl (by rw [size_ce, ceL_len]) ?_
          exact hK _ _ ⟨_, rfl, Reg.KJ.refl _, fun d hd => by cases hd; exact rfl, fun h => by cases h⟩
        · intro x u hku hd
          have h33 : x 33 = .agg (ceL xc).toArray := hd 16 (by decide)
          have h38 : x 38 = .agg (ceL xc).toArray := hd 21 (by decide)
          have h28 : x 28 = .bool false := hd 11 (by decide)
          have hne := HNE.out
          refine wpOp_step rfl fun KK hK => ?_
          simp only [h33, h38, h28] at hK ⊢
          go_simp
          exact hK _ _ ⟨_, rfl, Reg.KJ.refl _, fun d hd => by cases hd; exact rfl, fun h => by cases h⟩
        · intro x u hku hd
          have h28 : x 28 = .bool false := hd 11 (by decide)
          have h39 : x 39 = .bool false := hd 22 (by decide)
          refine wpOp_step rfl fun KK hK => ?_
          simp only [h28, h39] at hK ⊢
          go_simp
          exact hK _ _ ⟨_, rfl, Reg.KJ.refl _, fun d hd => by cases hd; exact rfl, fun h => by cases h⟩
      · intro y U hku hall
        have e40 : y 40 = .bool false := hall 23 (by decide)
        simp only [Reg.frame, Reg.over, Nat.reduceAdd, Nat.reduceLeDiff, decide_true, decide_false, if_true, Bool.false_eq_true, if_false, Bool.and_true, Bool.and_false, e40]
        have HKU := Lib.hid hku.below
        clear hku hall
        go_wp2_with fail
        go_roundw
        case rel => exact ⟨k + 1, by omega, by go_num, Lib.hid (HW.out.trans (HKU.out.mono HW.out.size))⟩
        case measure => simp [intOf]; omega
    · obtain rfl : k = n := by omega
      go_wp2_with fail
      go_ret
      exact ⟨rfl, HW.out⟩
set_option maxRecDepth 100000 in
set_option maxHeartbeats 2000000 in
theorem spoil15_none (w : World) : Calls Try.prog 45 #[.slice none 0 0] w fun e w' => e = .returned (.tuple #[]) ∧ Below w.heap.size w w' := by
  have hsl := fun W => noneHelds W
  go_enter Try.func45, Try.ntmps45
  go_wp2_with fail
  go_loopw [3] (fun s wr => s = .int .i64 0 ∧ Hid (Below w.heap.size w wr)) (fun s _ => 0)
  case atStart => exact ⟨rfl, Lib.hid (Below.refl _ _)⟩
  case round =>
    obtain ⟨rfl, HB⟩ := hrel
    go_wp2_with fail
    exact bodyPost_end (v := .tuple #[]) (by simp [results, Try.results45]) rfl ⟨rfl, HB.out⟩
set_option maxRecDepth 100000 in
set_option maxHeartbeats 4000000 in
theorem spoil15_is (G n : Nat) (hn : n ≤ 65536) (T : Nat → He) (w : World) (hB : Blk w G 118 (hesL T n).toArray) :
    Calls Try.prog 45 #[.slice (some ⟨G, 0, none⟩) n n] w fun e w' => e = .returned (.tuple #[]) ∧ But G w w' := by
  have HB := Lib.hid hB
  have hsl := fun W => headHelds G n n n (Nat.le_refl _) W
  clear hB
  go_enter Try.func45, Try.ntmps45
  go_wp2_with fail
  go_loopw [3] (fun s wr => ∃ k : Nat, k ≤ n ∧ s = .int .i64 (k : Int) ∧ ∃ X : Nat → He, Hid (Blk wr G 118 (hesL X n).toArray) ∧ Hid (But G w wr)) (fun s _ => n - (intOf s).toNat)
  case atStart => exact ⟨0, by omega, rfl, T, HB, Lib.hid (But.refl _ _)⟩
  case round =>
    clear HB
    obtain ⟨k, hk, rfl, X, HX, HU⟩ := hrel
    by_cases hlt : k < n
    · obtain ⟨x, hx⟩ : ∃ x, x = X k := ⟨_, rfl⟩
      have HP : Hid (PIn wr G (k * 56) 118 (flL (fun i => heL (X i)) k) (flL (fun j => heL (X (k + 1 + j))) (n - (k + 1))) (heL x)) := Lib.hid ⟨by have := HX.out; rw [show hesL X n = flL (fun i => heL (X i)) n from rfl, flL_at _ hlt, ← hx] at this; exact this, flL_len (fun i => heL_len _) _⟩
      clear hx
      have hix := fun W => idxHelds (A := some ⟨G, 0, none⟩) (n := n) n rfl hlt W
      simp only [Nat.zero_add] at hix
      have c1 : wr.cell? ⟨G, k * 56 + 1, none⟩ = some (.int .i64 x.c.a) := (HP.out.cell 1 (by rw [heL_len]; decide)).trans rfl
      have f1 := HP.out.frozen (k * 56 + 1)
      have lG := HP.out.lt
      go_upto_region 5 with fail
      refine wp_at (fun V => PIn V G (k * 56) 118 (flL (fun i => heL (X i)) k) (flL (fun j => heL (X (k + 1 + j))) (n - (k + 1))) (heL { x with c := { x.c with a := -99 } }) ∧ But G w V) ⟨HP.out.set_ 1 (.int .i64 (-99)) (by rw [heL_len]; decide), HU.out.trans (But.one _ _)⟩ ?_
      clear c1 f1 lG HP
      rintro V ⟨v1, v2⟩
      have HV := Lib.hid v1
      have HV2 := Lib.hid v2
      have c0 : V.cell? ⟨G, k * 56, none⟩ = some (.bool x.i) := (v1.cell 0 (by rw [heL_len]; decide)).trans rfl
      have f0 := v1.frozen (k * 56)
      have lG := v1.lt
      clear v1 v2
      go_wp2_with fail
      go_roundw
      case rel =>
        refine ⟨k + 1, by omega, by go_num, fun i => if i = k then ⟨!x.i, { x.c with a := -99 }⟩ else X i, Lib.hid ?_, Lib.hid (HV2.out.trans (But.one _ _))⟩
        have h := HV.out.set0 (.bool (!x.i)) (by rw [heL_len]; decide)
        have h2 := h.blk
        rw [show (heL { x with c := { x.c with a := -99 } }).set 0 (.bool (!x.i)) = heL ⟨!x.i, { x.c with a := -99 }⟩ from rfl, flL_upd (fun i => heL (X i)) k (heL ⟨!x.i, { x.c with a := -99 }⟩) hlt] at h2
        rw [show hesL (fun i => if i = k then (⟨!x.i, { x.c with a := -99 }⟩ : He) else X i) n = flL (fun i => if i = k then heL ⟨!x.i, { x.c with a := -99 }⟩ else heL (X i)) n from flL_congr fun i _ => by show heL (if i = k then (⟨!x.i, { x.c with a := -99 }⟩ : He) else X i) = _; split <;> rfl]
        exact h2
      case measure => simp [intOf]; omega
    · obtain rfl : k = n := by omega
      go_wp2_with fail
      exact bodyPost_end (v := .tuple #[]) (by simp [results, Try.results45]) rfl ⟨rfl, HU.out⟩
end Go.Proofs.Ytdbljggjddnjcaa

