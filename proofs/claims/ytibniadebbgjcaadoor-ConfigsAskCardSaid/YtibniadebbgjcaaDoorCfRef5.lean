/-
  The contract of the document's answer Next: what the mathematics says; nothing that was there has turned. Conditions: the config's reading; the config may be.
-/
import Derived.Test.YtibniadebbgjcaaDoorCfRef4
namespace Go.Proofs.YtibniadebbgjcaaDoor
open Go.RowKit Rg

theorem own_mem {S : List Int} (h : 0 < S.length) (s : Int) : ownM S s ∈ S := by
  have hb := mod_bd s (S.length : Int) (by omega)
  rw [ownM, getD_at S _ (by omega)]
  exact List.getElem_mem _
theorem next_nopair {S : List Int} {n : Nat} (hS : okS n S) (hl : 0 < S.length) {slot p : Int} (hp : ¬ (0 ≤ p ∧ p < n)) : nextM S slot p = -1 := by
  by_cases h : slot < 0 ∨ 1099511627776 < slot
  · exact next_out h
  · refine next_none h fun i _ e => hp ?_
    have := hS.1 _ (own_mem hl (slot + i))
    rw [e] at this
    exact this

set_option maxRecDepth 100000 in
set_option maxHeartbeats 2000000 in
theorem refNext_is (c : Cf) (slot p r : Int) (hr : nextM c.S slot p = r) (w : World) (hc : CfIn w c) (hok : CfOk c) :
    Calls Tryd.prog 26 #[.agg #[.int .i64 c.N, .slice c.pA c.pn c.pc, .slice c.sA c.sn c.sc, .int .i64 c.L, .slice c.bA c.bn c.bc, .slice c.tA c.tn c.tc, .int .i64 c.M, .int .i64 c.G, .int .i64 c.F], .int .i64 slot, .int .i64 p] w fun e w' => e = .returned (.int .i64 r) ∧ Below w.heap.size w w' := by
  have HC := Lib.hid hc
  have HOK := Lib.hid hok
  have hl := hc.s.len
  have hlp := hc.p.len
  obtain ⟨hs1, hs2⟩ := hok.slots
  by_cases h1 : slot < 0
  · have HR := Lib.hid (show (-1 : Int) = r by rw [← hr]; exact (next_out (.inl h1)).symm)
    clear hc hok hr hl hlp
    go_enter Tryd.func26, Tryd.ntmps26
    go_wp2_with fail
    go_ret
    exact ⟨ret_int HR.out, below_al (Below.refl _ _) _⟩
  · by_cases h2 : 1099511627776 < slot
    · have HR := Lib.hid (show (-1 : Int) = r by rw [← hr]; exact (next_out (.inr h2)).symm)
      have h1' : 0 ≤ slot := by omega
      clear hc hok hr hl hlp h1
      go_enter Tryd.func26, Tryd.ntmps26
      go_wp2_with fail
      go_ret
      exact ⟨ret_int HR.out, below_al (Below.refl _ _) _⟩
    · have h1' : 0 ≤ slot := by omega
      have h2' : slot ≤ 1099511627776 := by omega
      have hd1 : decide (slot < 0) = false := decide_eq_false h1
      have hd2 : decide (1099511627776 < slot) = false := decide_eq_false h2
      by_cases hp : 0 ≤ p ∧ p < c.pn
      · obtain ⟨q, rfl⟩ : ∃ q : Nat, p = q := ⟨p.toNat, by omega⟩
        obtain ⟨J, hJ, hnx, hown⟩ := next_some HOK.out.okS (show q < c.pn by omega) h1' h2'
        have hfp := okP_at HOK.out.okP q (by omega)
        have HF := Lib.hid (atM_nat c.P q (by omega))
        obtain ⟨f, hf⟩ : ∃ f, f = c.P.getD q 0 := ⟨_, rfl⟩
        rw [← hf] at hfp HF
        obtain ⟨hf0, -⟩ := hfp
        have hdf : decide (f < 0) = false := decide_eq_false (by omega)
        have HRES := Lib.hid (show r = slot + J from hr.symm.trans hnx)
        have HJ := Lib.hid hown
        have HMIN := Lib.hid (show ∀ i : Nat, i < J → ¬ ownM c.S (slot + i) = q from fun i hi e => by
          have h3 := next_hit (S := c.S) (slot := slot) (p := (q : Int)) (by omega)
          have hex : ∃ i', i' ≤ i ∧ i' < c.S.length ∧ (∀ k : Nat, k < i' → ¬ ownM c.S (slot + k) = q) ∧ ownM c.S (slot + i') = q := by
            clear hi
            induction i using Nat.strongRecOn with
            | _ i ih =>
              by_cases hm : ∃ k : Nat, k < i ∧ ownM c.S (slot + k) = q
              · obtain ⟨k, hk, hke⟩ := hm
                obtain ⟨i', a1, a2, a3, a4⟩ := ih k hk hke
                exact ⟨i', by omega, a2, a3, a4⟩
              · by_cases hil : i < c.S.length
                · exact ⟨i, Nat.le_refl _, hil, fun k hk hke => hm ⟨k, hk, hke⟩, e⟩
                · exfalso
                  refine hm ⟨i % c.S.length, ?_, ?_⟩
                  · have := Nat.mod_lt i (show 0 < c.S.length by omega); omega
                  · rw [← e, ownM, ownM]
                    congr 2
                    push_cast
                    exact Int.add_emod_emod _ _ _
          obtain ⟨i', a1, a2, a3, a4⟩ := hex
          have h4 := h3 i' a2 a3 a4
          rw [hnx] at h4
          omega)
        rw [hl] at hJ
        clear hc hok hr hlp h1 h2 hnx hf hp hown
        have HL := Lib.hid hl
        clear hl
        go_enter Tryd.func26, Tryd.ntmps26
        go_wp2_with (go_at_call 20; (with_reducible refine (refFirst_is c q f HF.out _ (HC.out.al _)).mono ?_); rintro e w1 ⟨rfl, b1⟩)
        go_loopw [1] (fun s wr => ∃ j : Nat, j ≤ J ∧ s = .int .i64 (slot + j) ∧ Blk wr w.heap.size 25 #[.int .i64 c.N, .slice c.pA c.pn c.pc, .slice c.sA c.sn c.sc, .int .i64 c.L, .slice c.bA c.bn c.bc, .slice c.tA c.tn c.tc, .int .i64 c.M, .int .i64 c.G, .int .i64 c.F] ∧ Below w.heap.size w wr) (fun s _ => (slot + J - intOf s).toNat)
        case atStart => exact ⟨0, Nat.zero_le _, by simp, (Blk.new w _ _).on b1, below_then (below_al (Below.refl _ _) _) b1⟩
        case round =>
          obtain ⟨j, hj, rfl, hB, hb⟩ := hrel
          clear b1
          obtain ⟨s, hs⟩ : ∃ s, s = slot + (j : Int) := ⟨_, rfl⟩
          rw [← hs]
          have HS := Lib.hid hs
          have hsb : 0 ≤ s := by omega
          have hsb2 : s ≤ 1099511693311 := by omega
          have hmb := mod_bd s (c.sn : Int) (by omega)
          have hown2 := own_at (S := c.S) (by rw [HL.out]; omega) s
          rw [HL.out] at hown2
          obtain ⟨y, hy⟩ : ∃ y, y = s % (c.sn : Int) := ⟨_, rfl⟩
          rw [← hy] at hown2 hmb
          obtain ⟨o, ho⟩ : ∃ o, o = ownM c.S s := ⟨_, rfl⟩
          rw [← ho] at hown2
          have HO := Lib.hid hown2
          have hy1 : s.tmod (c.sn : Int) = y := by rw [Int.tmod_eq_emod_of_nonneg (by omega)]; exact hy.symm
          have hy2 : s % (c.sn : Int) = y := hy.symm
          obtain ⟨hy3, hy4⟩ := hmb
          have hsn : 0 < c.sn := by omega
          have hsz : (c.sn : Int) ≠ 0 := by omega
          have hszn : ¬ c.sn = 0 := by omega
          have hsz' : ((c.sn : Int) == 0) = false := beq_eq_false_iff_ne.2 hsz
          have hwy : IntKind.i64.wrap y = y := IntWalk.i64_in _ (by omega)
          by_cases hlt : j < J
          · have hne : (o != (q : Int)) = true := by
              have := HMIN.out j hlt
              rw [← hs, ← ho] at this
              simpa using this
            clear hs hy ho hown2
            go_wp2_with fail
            refine Reg.wp_slots (fun t => decide (19 ≤ t) && decide (t ≤ 27)) (by kernel_rfl) (by kernel_rfl) (by kernel_rfl) (fun zz => (Reg.tbl [
              (19, .is (.agg #[.int .i64 c.N, .slice c.pA c.pn c.pc, .slice c.sA c.sn c.sc, .int .i64 c.L, .slice c.bA c.bn c.bc, .slice c.tA c.tn c.tc, .int .i64 c.M, .int .i64 c.G, .int .i64 c.F])),
              (20, .is (.int .i64 s)),
              (21, .is (.pointer (some ⟨w.heap.size, 2, none⟩))),
              (22, .is (.slice c.sA c.sn c.sc)),
              (23, .is (.int .i64 c.sn)),
              (24, .is (.int .i64 y)),
              (25, .is (.int .i64 o)),
              (26, .is (.int .i64 (q : Int))),
              (27, .is (.bool true))] zz).P) (fun zz => (Reg.tbl _ zz).on) ?_ ?_
            · simp only [Reg.frame, Reg.over, Nat.reduceAdd, Nat.reduceLeDiff, decide_true, decide_false, Bool.and_true, Bool.and_false, if_true, Bool.false_eq_true, if_false]
              refine ⟨?_, ?_, ?_, ?_, ?_, ?_, ?_, ?_, ?_, trivial⟩
              · intro x u hbu hd
                obtain ⟨z0, z1, z2, z3, z4, z5, z6, z7, z8⟩ := (hB.on hbu).cf
                refine wpOp_step rfl fun K hK => ?_
                go_simp
                exact hK _ _ ⟨_, rfl, Below.refl _ _, fun d hd => by cases hd; exact rfl⟩
              · intro x u hbu hd
                refine wpOp_step rfl fun K hK => ?_
                go_simp
                exact hK _ _ ⟨_, rfl, Below.refl _ _, fun d hd => by cases hd; exact rfl⟩
              · intro x u hbu hd
                refine wpOp_step rfl fun K hK => ?_
                go_simp
                exact hK _ _ ⟨_, rfl, Below.refl _ _, fun d hd => by cases hd; exact rfl⟩
              · intro x u hbu hd
                have h21 : x 21 = .pointer (some ⟨w.heap.size, 2, none⟩) := hd 2 (by decide)
                obtain ⟨z0, z1, z2, z3, z4, z5, z6, z7, z8⟩ := (hB.on hbu).cf
                refine wpOp_step rfl fun K hK => ?_
                simp only [h21] at hK ⊢
                go_simp
                exact hK _ _ ⟨_, rfl, Below.refl _ _, fun d hd => by cases hd; exact rfl⟩
              · intro x u hbu hd
                have h22 : x 22 = .slice c.sA c.sn c.sc := hd 3 (by decide)
                refine wpOp_step rfl fun K hK => ?_
                simp only [h22] at hK ⊢
                go_simp
                exact hK _ _ ⟨_, rfl, Below.refl _ _, fun d hd => by cases hd; exact rfl⟩
              · intro x u hbu hd
                have h20 : x 20 = .int .i64 s := hd 1 (by decide)
                have h23 : x 23 = .int .i64 c.sn := hd 4 (by decide)
                refine wpOp_step rfl fun K hK => ?_
                simp only [h20, h23] at hK ⊢
                go_simp
                exact hK _ _ ⟨_, rfl, Below.refl _ _, fun d hd => by cases hd; exact rfl⟩
              · intro x u hbu hd
                have h19 : x 19 = .agg #[.int .i64 c.N, .slice c.pA c.pn c.pc, .slice c.sA c.sn c.sc, .int .i64 c.L, .slice c.bA c.bn c.bc, .slice c.tA c.tn c.tc, .int .i64 c.M, .int .i64 c.G, .int .i64 c.F] := hd 0 (by decide)
                have h24 : x 24 = .int .i64 y := hd 5 (by decide)
                refine wpOp_step rfl fun K hK => ?_
                simp only [h19, h24] at hK ⊢
                go_simp
                with_reducible refine (refOwner_is c y o HO.out u (HC.out.on (below_then hb hbu))).mono ?_
                rintro e u' ⟨rfl, hb'⟩
                exact hK _ _ ⟨_, rfl, hb', fun d hd => by cases hd; exact rfl⟩
              · intro x u hbu hd
                refine wpOp_step rfl fun K hK => ?_
                go_simp
                exact hK _ _ ⟨_, rfl, Below.refl _ _, fun d hd => by cases hd; exact rfl⟩
              · intro x u hbu hd
                have h25 : x 25 = .int .i64 o := hd 6 (by decide)
                have h26 : x 26 = .int .i64 (q : Int) := hd 7 (by decide)
                refine wpOp_step rfl fun K hK => ?_
                simp only [h25, h26] at hK ⊢
                go_simp
                exact hK _ _ ⟨_, rfl, Below.refl _ _, fun d hd => by cases hd; exact rfl⟩
            · intro x' U hU hd
              have h27 : x' 27 = .bool true := hd 8 (by decide)
              simp only [Reg.frame, Reg.over, Nat.reduceAdd, Nat.reduceLeDiff, decide_true, decide_false, Bool.and_true, Bool.and_false, if_true, Bool.false_eq_true, if_false, h27]
              go_wp2_with fail
              go_roundw
              case rel => exact ⟨j + 1, by omega, by rw [HS.out]; go_num, hB.on hU, below_then hb hU⟩
              case measure => rw [HS.out]; simp [intOf]; omega
          · obtain rfl : j = J := by omega
            have hne : (o != (q : Int)) = false := by rw [ho, hs, HJ.out]; simp
            clear hs hy ho hown2
            have HRES := Lib.hid (HRES.out.trans HS.out.symm)
            go_wp2_with fail
            refine Reg.wp_slots (fun t => decide (19 ≤ t) && decide (t ≤ 27)) (by kernel_rfl) (by kernel_rfl) (by kernel_rfl) (fun zz => (Reg.tbl [
              (19, .is (.agg #[.int .i64 c.N, .slice c.pA c.pn c.pc, .slice c.sA c.sn c.sc, .int .i64 c.L, .slice c.bA c.bn c.bc, .slice c.tA c.tn c.tc, .int .i64 c.M, .int .i64 c.G, .int .i64 c.F])),
              (20, .is (.int .i64 s)),
              (21, .is (.pointer (some ⟨w.heap.size, 2, none⟩))),
              (22, .is (.slice c.sA c.sn c.sc)),
              (23, .is (.int .i64 c.sn)),
              (24, .is (.int .i64 y)),
              (25, .is (.int .i64 o)),
              (26, .is (.int .i64 (q : Int))),
              (27, .is (.bool false))] zz).P) (fun zz => (Reg.tbl _ zz).on) ?_ ?_
            · simp only [Reg.frame, Reg.over, Nat.reduceAdd, Nat.reduceLeDiff, decide_true, decide_false, Bool.and_true, Bool.and_false, if_true, Bool.false_eq_true, if_false]
              refine ⟨?_, ?_, ?_, ?_, ?_, ?_, ?_, ?_, ?_, trivial⟩
              · intro x u hbu hd
                obtain ⟨z0, z1, z2, z3, z4, z5, z6, z7, z8⟩ := (hB.on hbu).cf
                refine wpOp_step rfl fun K hK => ?_
                go_simp
                exact hK _ _ ⟨_, rfl, Below.refl _ _, fun d hd => by cases hd; exact rfl⟩
              · intro x u hbu hd
                refine wpOp_step rfl fun K hK => ?_
                go_simp
                exact hK _ _ ⟨_, rfl, Below.refl _ _, fun d hd => by cases hd; exact rfl⟩
              · intro x u hbu hd
                refine wpOp_step rfl fun K hK => ?_
                go_simp
                exact hK _ _ ⟨_, rfl, Below.refl _ _, fun d hd => by cases hd; exact rfl⟩
              · intro x u hbu hd
                have h21 : x 21 = .pointer (some ⟨w.heap.size, 2, none⟩) := hd 2 (by decide)
                obtain ⟨z0, z1, z2, z3, z4, z5, z6, z7, z8⟩ := (hB.on hbu).cf
                refine wpOp_step rfl fun K hK => ?_
                simp only [h21] at hK ⊢
                go_simp
                exact hK _ _ ⟨_, rfl, Below.refl _ _, fun d hd => by cases hd; exact rfl⟩
              · intro x u hbu hd
                have h22 : x 22 = .slice c.sA c.sn c.sc := hd 3 (by decide)
                refine wpOp_step rfl fun K hK => ?_
                simp only [h22] at hK ⊢
                go_simp
                exact hK _ _ ⟨_, rfl, Below.refl _ _, fun d hd => by cases hd; exact rfl⟩
              · intro x u hbu hd
                have h20 : x 20 = .int .i64 s := hd 1 (by decide)
                have h23 : x 23 = .int .i64 c.sn := hd 4 (by decide)
                refine wpOp_step rfl fun K hK => ?_
                simp only [h20, h23] at hK ⊢
                go_simp
                exact hK _ _ ⟨_, rfl, Below.refl _ _, fun d hd => by cases hd; exact rfl⟩
              · intro x u hbu hd
                have h19 : x 19 = .agg #[.int .i64 c.N, .slice c.pA c.pn c.pc, .slice c.sA c.sn c.sc, .int .i64 c.L, .slice c.bA c.bn c.bc, .slice c.tA c.tn c.tc, .int .i64 c.M, .int .i64 c.G, .int .i64 c.F] := hd 0 (by decide)
                have h24 : x 24 = .int .i64 y := hd 5 (by decide)
                refine wpOp_step rfl fun K hK => ?_
                simp only [h19, h24] at hK ⊢
                go_simp
                with_reducible refine (refOwner_is c y o HO.out u (HC.out.on (below_then hb hbu))).mono ?_
                rintro e u' ⟨rfl, hb'⟩
                exact hK _ _ ⟨_, rfl, hb', fun d hd => by cases hd; exact rfl⟩
              · intro x u hbu hd
                refine wpOp_step rfl fun K hK => ?_
                go_simp
                exact hK _ _ ⟨_, rfl, Below.refl _ _, fun d hd => by cases hd; exact rfl⟩
              · intro x u hbu hd
                have h25 : x 25 = .int .i64 o := hd 6 (by decide)
                have h26 : x 26 = .int .i64 (q : Int) := hd 7 (by decide)
                refine wpOp_step rfl fun K hK => ?_
                simp only [h25, h26] at hK ⊢
                go_simp
                exact hK _ _ ⟨_, rfl, Below.refl _ _, fun d hd => by cases hd; exact rfl⟩
            · intro x' U hU hd
              have h27 : x' 27 = .bool false := hd 8 (by decide)
              simp only [Reg.frame, Reg.over, Nat.reduceAdd, Nat.reduceLeDiff, decide_true, decide_false, Bool.and_true, Bool.and_false, if_true, Bool.false_eq_true, if_false, h27]
              go_wp2_with fail
              go_ret
              exact ⟨ret_int HRES.out.symm, below_then hb hU⟩
      · have HF := Lib.hid (show atM c.P p = -1 by rw [atM, if_neg (by omega)])
        have HR := Lib.hid (show (-1 : Int) = r by rw [← hr]; exact (next_nopair HOK.out.okS (by omega) hp).symm)
        clear hc hok hr hl hlp h1 h2 hp
        go_enter Tryd.func26, Tryd.ntmps26
        go_wp2_with (go_at_call 20; (with_reducible refine (refFirst_is c p (-1) HF.out _ (HC.out.al _)).mono ?_); rintro e w1 ⟨rfl, b1⟩)
        go_ret
        exact ⟨ret_int HR.out, below_then (below_al (Below.refl _ _) _) b1⟩
end Go.Proofs.YtibniadebbgjcaaDoor
