/-
  The document's words: the contract of the reference's Same. Conditions: the rows' reading, their tables' lengths.
-/
import Derived.Test.YtmmgbhdjjejacaaWdR3
namespace Go.Proofs.Ytmmgbhdjjejacaa
open Go.RowKit
set_option linter.unusedVariables false
set_option linter.unusedSimpArgs false

set_option maxRecDepth 100000 in
set_option maxHeartbeats 4000000 in
theorem rsame_rows (a b : Rw) (hn : a.n ≤ 65536) (hm : b.n ≤ 65536) (w : World) (hT : LiesH w w.heap.size a.A a.n a.T) (hU : LiesH w w.heap.size b.A b.n b.T) :
    Calls Try.prog 23 #[.agg a.l.toArray, .agg b.l.toArray] w fun e w' => e = .returned (.bool (eqR a.ro b.ro)) ∧ Below w.heap.size w w' := by
  obtain ⟨ab, ac, aA, an, ap, aT⟩ := a
  obtain ⟨bb, bc, bA, bn, bp, bT⟩ := b
  have hT' : LiesH w w.heap.size aA an aT := hT
  have hU' : LiesH w w.heap.size bA bn bT := hU
  have HT := Lib.hid hT'
  have HU := Lib.hid hU'
  have hn' : an ≤ 65536 := hn
  have hm' : bn ≤ 65536 := hm
  clear hT hU hT' hU' hn hm
  have hq := fun W => cell_neq ac bc W
  obtain ⟨t, ht⟩ : ∃ t, t = ceE ac bc := ⟨_, rfl⟩
  rw [← ht] at hq
  have HE : Hid (eqR (Rw.ro ⟨ab, ac, aA, an, ap, aT⟩) (Rw.ro ⟨bb, bc, bA, bn, bp, bT⟩) = (ab == bb && (t && eqHs an bn aT bT))) := Lib.hid (by rw [ht]; rfl)
  clear ht
  go_enter Try.func23, Try.ntmps23
  go_upto_region 1 with fail
  refine wp_at (fun U => Blk U w.heap.size 61 (roL ab ac aA an ap).toArray ∧ Blk U (w.heap.size + 1) 61 (roL bb bc bA bn bp).toArray ∧ Below w.heap.size w U) (box_two w _ _ _ _) ?_
  rintro U ⟨h1, h2, h3⟩
  have a0 : U.cell? ⟨w.heap.size, 0, none⟩ = some (.bool ab) := (h1.pin.cell0 (by simp [roL])).trans rfl
  have b0 : U.cell? ⟨w.heap.size + 1, 0, none⟩ = some (.bool bb) := (h2.pin.cell0 (by simp [roL])).trans rfl
  have a56 := h1.rowTab
  have b56 := h2.rowTab
  have l1 := h1.lt
  have l2 := h2.lt
  have HA := Lib.hid h1
  have HBC := Lib.hid h2
  have HB := Lib.hid h3
  clear h1 h2 h3
  have hno : ∀ x : Bool, x = false → (ab == bb && (t && eqHs an bn aT bT)) = x → eqR (Rw.ro ⟨ab, ac, aA, an, ap, aT⟩) (Rw.ro ⟨bb, bc, bA, bn, bp, bT⟩) = false := fun x hx e => by rw [HE.out, e, hx]
  have HNO := Lib.hid hno
  clear hno
  by_cases hab : ab = bb
  · subst hab
    have e0 : (ab != ab) = false := by simp
    cases t
    · go_wp2_with (first
        | (refine wpList_load_want 51 (.tmp 12) rfl w.heap.size 1 (ceL ac) HA.out.rowCell (by simp [Act.eval, Act.put]) (by kernel_rfl) _ Try.underlying51 rfl (by rw [size_ce, ceL_len]) ?_)
        | (refine wpList_load_want 51 (.tmp 14) rfl (w.heap.size + 1) 1 (ceL bc) HBC.out.rowCell (by simp [Act.eval, Act.put]) (by kernel_rfl) _ Try.underlying51 rfl (by rw [size_ce, ceL_len]) ?_))
      go_ret
      rw [HNO.out _ rfl (by simp)]
      exact ⟨rfl, HB.out⟩
    · by_cases hnm : an = bn
      · subst hnm
        have e1 : ((an : Int) != (an : Int)) = false := by simp
        go_wp2_with (first
          | (refine wpList_load_want 51 (.tmp 12) rfl w.heap.size 1 (ceL ac) HA.out.rowCell (by simp [Act.eval, Act.put]) (by kernel_rfl) _ Try.underlying51 rfl (by rw [size_ce, ceL_len]) ?_)
          | (refine wpList_load_want 51 (.tmp 14) rfl (w.heap.size + 1) 1 (ceL bc) HBC.out.rowCell (by simp [Act.eval, Act.put]) (by kernel_rfl) _ Try.underlying51 rfl (by rw [size_ce, ceL_len]) ?_))
        go_loopw [5] (fun s wr => ∃ k : Nat, k ≤ an ∧ s = .int .i64 (k : Int) ∧ Hid (allE k aT bT = true) ∧ Hid (Below U.heap.size U wr)) (fun s _ => an - (intOf s).toNat)
        case atStart => exact ⟨0, by omega, rfl, Lib.hid rfl, Lib.hid (Below.refl _ _)⟩
        case round =>
          clear a0 b0 a56 b56 l1 l2 hq
          obtain ⟨k, hk, rfl, HAL, HBW⟩ := hrel
          have a56 := (HA.out.on HBW.out).rowTab
          have b56 := (HBC.out.on HBW.out).rowTab
          have l1 := (HA.out.on HBW.out).lt
          have l2 := (HBC.out.on HBW.out).lt
          by_cases hlt : k < an
          · obtain ⟨ba, oa, rfl, hba, hca⟩ := HT.out (by omega)
            obtain ⟨bd, ob, rfl, hbb, hcb⟩ := HU.out (by omega)
            have HL := Lib.hid (HB.out.trans (HBW.out.mono HB.out.size))
            have HRA : Hid (∀ u, Below w.heap.size w u → u.rangeAt ba (oa + k * 56) (heL (aT k))) := Lib.hid (fun u hb j v hv => (hb.cell (p := ⟨ba, _, none⟩) hba).trans (hca k hlt j v hv))
            have HRB : Hid (∀ u, Below w.heap.size w u → u.rangeAt bd (ob + k * 56) (heL (bT k))) := Lib.hid (fun u hb j v hv => (hb.cell (p := ⟨bd, _, none⟩) hbb).trans (hcb k hlt j v hv))
            have hixa := fun W => idxRHelds (A := some ⟨ba, oa, none⟩) (n := an) ap rfl hlt W
            have hixb := fun W => idxRHelds (A := some ⟨bd, ob, none⟩) (n := an) bp rfl hlt W
            have hne := fun W => rheld_neq (aT k) (bT k) W
            obtain ⟨t, ht⟩ : ∃ t, t = heE (aT k) (bT k) := ⟨_, rfl⟩
            rw [← ht] at hne
            have HT' := Lib.hid ht
            clear ht hca hcb hba hbb
            go_wp2_with fail
            refine Reg.wp_slots2 (fun t => decide (34 ≤ t)) (Reg.KJ wr.heap.size [] []) (Reg.KJ.drew _ (by simp)) Reg.KJ.trans (by kernel_rfl) (by kernel_rfl) (by kernel_rfl) (fun zz => (Reg.tblK [
              (34, .is (.pointer (some ⟨w.heap.size, 56, none⟩))),
              (35, .is (.slice (some ⟨ba, oa, none⟩) an ap)),
              (36, .is (.int .i64 (k : Int))),
              (37, .is (.pointer (some ⟨ba, oa + k * 56, none⟩))),
              (38, .is (.agg (heL (aT k)).toArray)),
              (39, .is (.pointer (some ⟨w.heap.size + 1, 56, none⟩))),
              (40, .is (.slice (some ⟨bd, ob, none⟩) an bp)),
              (41, .is (.int .i64 (k : Int))),
              (42, .is (.pointer (some ⟨bd, ob + k * 56, none⟩))),
              (43, .is (.agg (heL (bT k)).toArray)),
              (44, .is (.bool (!t)))] zz).P) (fun zz => (Reg.tblK _ zz).on) (fun zz => (Reg.memK [] zz).P) (fun zz => (Reg.memK _ zz).on) ?_ ?_
            · simp only [Reg.frame, Reg.over, Nat.reduceAdd, Nat.reduceLeDiff, decide_true, decide_false, if_true, Bool.false_eq_true, if_false]
              refine ⟨?_, ?_, ?_, ?_, ?_, ?_, ?_, ?_, ?_, ?_, ?_, trivial⟩
              · intro x u hku hd
                refine wpOp_step rfl fun KK hK => ?_
                go_simp
                exact hK _ _ ⟨_, rfl, Reg.KJ.refl _, fun d hd => by cases hd; exact rfl, fun h => by cases h⟩
              · intro x u hku hd
                have h34 : x 34 = .pointer (some ⟨w.heap.size, 56, none⟩) := hd 0 (by decide)
                have c35 := ((HA.out.on HBW.out).on hku.below).rowTab
                have z35 := ((HA.out.on HBW.out).on hku.below).lt
                refine wpOp_step rfl fun KK hK => ?_
                simp only [h34] at hK ⊢
                go_simp
                exact hK _ _ ⟨_, rfl, Reg.KJ.refl _, fun d hd => by cases hd; exact rfl, fun h => by cases h⟩
              · intro x u hku hd
                refine wpOp_step rfl fun KK hK => ?_
                go_simp
                exact hK _ _ ⟨_, rfl, Reg.KJ.refl _, fun d hd => by cases hd; exact rfl, fun h => by cases h⟩
              · intro x u hku hd
                have h35 : x 35 = .slice (some ⟨ba, oa, none⟩) an ap := hd 1 (by decide)
                have h36 : x 36 = .int .i64 (k : Int) := hd 2 (by decide)
                refine wpOp_step rfl fun KK hK => ?_
                simp only [h35, h36] at hK ⊢
                go_simp
                exact hK _ _ ⟨_, rfl, Reg.KJ.refl _, fun d hd => by cases hd; exact rfl, fun h => by cases h⟩
              · intro x u hku hd
                have h37 : x 37 = .pointer (some ⟨ba, oa + k * 56, none⟩) := hd 3 (by decide)
                refine wpOp_step rfl fun KK hK => ?_
                refine Reg.step_load_mid (by rfl) 133 (.tmp 37) (by rfl) ba (oa + k * 56) (by exact h37) (heL (aT k)) (HRA.out u (HL.out.trans (hku.below.mono HL.out.size))) _ Try.underlying133 rfl (by rw [size_rhe, heL_len]) ?_
                exact hK _ _ ⟨_, rfl, Reg.KJ.refl _, fun d hd => by cases hd; exact rfl, fun h => by cases h⟩
              · intro x u hku hd
                refine wpOp_step rfl fun KK hK => ?_
                go_simp
                exact hK _ _ ⟨_, rfl, Reg.KJ.refl _, fun d hd => by cases hd; exact rfl, fun h => by cases h⟩
              · intro x u hku hd
                have h39 : x 39 = .pointer (some ⟨w.heap.size + 1, 56, none⟩) := hd 5 (by decide)
                have c40 := ((HBC.out.on HBW.out).on hku.below).rowTab
                have z40 := ((HBC.out.on HBW.out).on hku.below).lt
                refine wpOp_step rfl fun KK hK => ?_
                simp only [h39] at hK ⊢
                go_simp
                exact hK _ _ ⟨_, rfl, Reg.KJ.refl _, fun d hd => by cases hd; exact rfl, fun h => by cases h⟩
              · intro x u hku hd
                refine wpOp_step rfl fun KK hK => ?_
                go_simp
                exact hK _ _ ⟨_, rfl, Reg.KJ.refl _, fun d hd => by cases hd; exact rfl, fun h => by cases h⟩
              · intro x u hku hd
                have h40 : x 40 = .slice (some ⟨bd, ob, none⟩) an bp := hd 6 (by decide)
                have h41 : x 41 = .int .i64 (k : Int) := hd 7 (by decide)
                refine wpOp_step rfl fun KK hK => ?_
                simp only [h40, h41] at hK ⊢
                go_simp
                exact hK _ _ ⟨_, rfl, Reg.KJ.refl _, fun d hd => by cases hd; exact rfl, fun h => by cases h⟩
              · intro x u hku hd
                have h42 : x 42 = .pointer (some ⟨bd, ob + k * 56, none⟩) := hd 8 (by decide)
                refine wpOp_step rfl fun KK hK => ?_
                refine Reg.step_load_mid (by rfl) 133 (.tmp 42) (by rfl) bd (ob + k * 56) (by exact h42) (heL (bT k)) (HRB.out u (HL.out.trans (hku.below.mono HL.out.size))) _ Try.underlying133 rfl (by rw [size_rhe, heL_len]) ?_
                exact hK _ _ ⟨_, rfl, Reg.KJ.refl _, fun d hd => by cases hd; exact rfl, fun h => by cases h⟩
              · intro x u hku hd
                have h38 : x 38 = .agg (heL (aT k)).toArray := hd 4 (by decide)
                have h43 : x 43 = .agg (heL (bT k)).toArray := hd 9 (by decide)
                refine wpOp_step rfl fun KK hK => ?_
                simp only [h38, h43] at hK ⊢
                go_simp
                exact hK _ _ ⟨_, rfl, Reg.KJ.refl _, fun d hd => by cases hd; exact rfl, fun h => by cases h⟩
            · intro x u hku hd
              have HBu := Lib.hid (HBW.out.trans (hku.below.mono HBW.out.size))
              have e44 : x 44 = .bool (!t) := hd 10 (by decide)
              simp only [Reg.frame, Reg.over, Nat.reduceAdd, Nat.reduceLeDiff, decide_true, decide_false, if_true, Bool.false_eq_true, if_false, e44]
              cases t
              · go_wp2_with fail
                go_ret
                refine ⟨?_, HB.out.trans (HBu.out.mono HB.out.size)⟩
                have : eqR (Rw.ro ⟨ab, ac, some ⟨ba, oa, none⟩, an, ap, aT⟩) (Rw.ro ⟨ab, bc, some ⟨bd, ob, none⟩, an, bp, bT⟩) = false := HNO.out _ rfl (by unfold eqHs; rw [allE_no hlt HT'.out.symm]; simp)
                rw [this]; rfl
              · go_wp2_with fail
                go_roundw
                case rel => exact ⟨k + 1, by omega, by go_num, Lib.hid (by rw [allE_succ, HAL.out, ← HT'.out]; rfl), HBu⟩
                case measure => simp [intOf]; omega
          · obtain rfl : k = an := by omega
            go_wp2_with fail
            go_ret
            refine ⟨?_, HB.out.trans (HBW.out.mono HB.out.size)⟩
            have : eqR (Rw.ro ⟨ab, ac, aA, k, ap, aT⟩) (Rw.ro ⟨ab, bc, bA, k, bp, bT⟩) = true := by rw [HE.out]; unfold eqHs; rw [HAL.out]; simp
            rw [this]; rfl
      · have e1 : ((an : Int) != (bn : Int)) = true := bne_iff_ne.2 (fun h => hnm (by omega))
        go_wp2_with (first
          | (refine wpList_load_want 51 (.tmp 12) rfl w.heap.size 1 (ceL ac) HA.out.rowCell (by simp [Act.eval, Act.put]) (by kernel_rfl) _ Try.underlying51 rfl (by rw [size_ce, ceL_len]) ?_)
          | (refine wpList_load_want 51 (.tmp 14) rfl (w.heap.size + 1) 1 (ceL bc) HBC.out.rowCell (by simp [Act.eval, Act.put]) (by kernel_rfl) _ Try.underlying51 rfl (by rw [size_ce, ceL_len]) ?_))
        go_ret
        rw [HNO.out _ rfl (by unfold eqHs; rw [beq_eq_false_iff_ne.2 hnm]; simp)]
        exact ⟨rfl, HB.out⟩
  · have e0 : (ab != bb) = true := bne_iff_ne.2 hab
    go_wp2_with fail
    go_ret
    rw [HNO.out _ rfl (by rw [beq_eq_false_iff_ne.2 hab]; rfl)]
    exact ⟨rfl, HB.out⟩
end Go.Proofs.Ytmmgbhdjjejacaa

