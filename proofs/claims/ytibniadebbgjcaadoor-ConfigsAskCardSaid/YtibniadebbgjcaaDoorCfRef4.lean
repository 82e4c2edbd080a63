/-
  The contracts of the document's answers Round, Owner, First, Pair, Partner, Next: what the mathematics says; nothing that was there has turned. Conditions: the config's reading; of Partner and Next: the config may be.
-/
import Derived.Test.YtibniadebbgjcaaDoorCfH
import Derived.Test.YtibniadebbgjcaaDoorCfRef
import Derived.Test.YtibniadebbgjcaaDoorRgRef
import Derived.Test.YtibniadebbgjcaaDoorReg
namespace Go.Proofs.YtibniadebbgjcaaDoor
open Go.RowKit Rg

theorem refRound_is (c : Cf) (r : Int) (hr : (c.sn : Int) * c.L = r) (w : World) (hc : CfIn w c) (hL : 0 ≤ c.L) (hL2 : c.L ≤ 4096) :
    Calls Tryd.prog 16 #[.agg #[.int .i64 c.N, .slice c.pA c.pn c.pc, .slice c.sA c.sn c.sc, .int .i64 c.L, .slice c.bA c.bn c.bc, .slice c.tA c.tn c.tc, .int .i64 c.M, .int .i64 c.G, .int .i64 c.F]] w fun e w' => e = .returned (.int .i64 r) ∧ Below w.heap.size w w' := by
  have hs := hc.few.2.1
  have hm : 0 ≤ r ∧ r ≤ 268435456 := by
    rw [← hr]
    refine ⟨Int.mul_nonneg (by omega) hL, ?_⟩
    have h : (c.sn : Int) * c.L ≤ 65536 * c.L := Int.mul_le_mul_of_nonneg_right (by omega) hL
    omega
  have hwr : IntKind.i64.wrap r = r := IntWalk.i64_in _ (by omega)
  clear hm
  go_enter Tryd.func16, Tryd.ntmps16
  go_wp2_with fail
  go_ret
  exact ⟨rfl, below_al (Below.refl _ _) _⟩
theorem refOwner_is (c : Cf) (x r : Int) (hr : atM c.S x = r) (w : World) (hc : CfIn w c) :
    Calls Tryd.prog 18 #[.agg #[.int .i64 c.N, .slice c.pA c.pn c.pc, .slice c.sA c.sn c.sc, .int .i64 c.L, .slice c.bA c.bn c.bc, .slice c.tA c.tn c.tc, .int .i64 c.M, .int .i64 c.G, .int .i64 c.F], .int .i64 x] w fun e w' => e = .returned (.int .i64 r) ∧ Below w.heap.size w w' := by
  have hl := hc.s.len
  have hfew := hc.few.2.1
  by_cases h : 0 ≤ x ∧ x < c.sn
  · obtain ⟨b, off, hA, hbl, hcc⟩ := (hc.al (.cells #[.int .i64 c.N, .slice c.pA c.pn c.pc, .slice c.sA c.sn c.sc, .int .i64 c.L, .slice c.bA c.bn c.bc, .slice c.tA c.tn c.tc, .int .i64 c.M, .int .i64 c.G, .int .i64 c.F] 25)).s.at_ (by omega)
    obtain ⟨k, rfl⟩ : ∃ k : Nat, x = k := ⟨x.toNat, by omega⟩
    have hk : k < c.sn := by omega
    have hcell := hcc k hk
    have HR := Lib.hid (show c.S.getD k 0 = r by rw [← hr, atM_nat c.S k (by omega)])
    obtain ⟨y, hy⟩ : ∃ y, y = c.S.getD k 0 := ⟨_, rfl⟩
    rw [← hy] at hcell HR
    have hix := fun W => idxNums (n := c.sn) c.sc hA hk W
    have hd0 : decide ((k : Int) < 0) = false := decide_eq_false (by omega)
    have hd1 : decide ((c.sn : Int) ≤ (k : Int)) = false := decide_eq_false (by omega)
    have hd2 : decide (c.sn ≤ k) = false := decide_eq_false (by omega)
    clear hy hcc hA hl h hr hc
    go_enter Tryd.func18, Tryd.ntmps18
    go_wp2_with fail
    go_ret
    exact ⟨ret_int HR.out, below_al (Below.refl _ _) _⟩
  · have HR := Lib.hid (show (-1 : Int) = r by rw [← hr, atM, if_neg (by omega)])
    by_cases h0 : x < 0
    · clear h hl hr hc
      go_enter Tryd.func18, Tryd.ntmps18
      go_wp2_with fail
      go_ret
      exact ⟨ret_int HR.out, below_al (Below.refl _ _) _⟩
    · have h1 : (c.sn : Int) ≤ x := by omega
      have h0' : 0 ≤ x := by omega
      clear h hl h0 hr hc
      go_enter Tryd.func18, Tryd.ntmps18
      go_wp2_with fail
      go_ret
      exact ⟨ret_int HR.out, below_al (Below.refl _ _) _⟩
theorem refFirst_is (c : Cf) (x r : Int) (hr : atM c.P x = r) (w : World) (hc : CfIn w c) :
    Calls Tryd.prog 20 #[.agg #[.int .i64 c.N, .slice c.pA c.pn c.pc, .slice c.sA c.sn c.sc, .int .i64 c.L, .slice c.bA c.bn c.bc, .slice c.tA c.tn c.tc, .int .i64 c.M, .int .i64 c.G, .int .i64 c.F], .int .i64 x] w fun e w' => e = .returned (.int .i64 r) ∧ Below w.heap.size w w' := by
  have hl := hc.p.len
  have hfew := hc.few.1
  by_cases h : 0 ≤ x ∧ x < c.pn
  · obtain ⟨b, off, hA, hbl, hcc⟩ := (hc.al (.cells #[.int .i64 c.N, .slice c.pA c.pn c.pc, .slice c.sA c.sn c.sc, .int .i64 c.L, .slice c.bA c.bn c.bc, .slice c.tA c.tn c.tc, .int .i64 c.M, .int .i64 c.G, .int .i64 c.F] 25)).p.at_ (by omega)
    obtain ⟨k, rfl⟩ : ∃ k : Nat, x = k := ⟨x.toNat, by omega⟩
    have hk : k < c.pn := by omega
    have hcell := hcc k hk
    have HR := Lib.hid (show c.P.getD k 0 = r by rw [← hr, atM_nat c.P k (by omega)])
    obtain ⟨y, hy⟩ : ∃ y, y = c.P.getD k 0 := ⟨_, rfl⟩
    rw [← hy] at hcell HR
    have hix := fun W => idxNums (n := c.pn) c.pc hA hk W
    have hd0 : decide ((k : Int) < 0) = false := decide_eq_false (by omega)
    have hd1 : decide ((c.pn : Int) ≤ (k : Int)) = false := decide_eq_false (by omega)
    have hd2 : decide (c.pn ≤ k) = false := decide_eq_false (by omega)
    clear hy hcc hA hl h hr hc
    go_enter Tryd.func20, Tryd.ntmps20
    go_wp2_with fail
    go_ret
    exact ⟨ret_int HR.out, below_al (Below.refl _ _) _⟩
  · have HR := Lib.hid (show (-1 : Int) = r by rw [← hr, atM, if_neg (by omega)])
    by_cases h0 : x < 0
    · clear h hl hr hc
      go_enter Tryd.func20, Tryd.ntmps20
      go_wp2_with fail
      go_ret
      exact ⟨ret_int HR.out, below_al (Below.refl _ _) _⟩
    · have h1 : (c.pn : Int) ≤ x := by omega
      have h0' : 0 ≤ x := by omega
      clear h hl h0 hr hc
      go_enter Tryd.func20, Tryd.ntmps20
      go_wp2_with fail
      go_ret
      exact ⟨ret_int HR.out, below_al (Below.refl _ _) _⟩

set_option maxRecDepth 100000 in
theorem refPair_any (c : Cf) (x : Int) (w : World) (hc : CfIn w c) :
    Calls Tryd.prog 22 #[.agg #[.int .i64 c.N, .slice c.pA c.pn c.pc, .slice c.sA c.sn c.sc, .int .i64 c.L, .slice c.bA c.bn c.bc, .slice c.tA c.tn c.tc, .int .i64 c.M, .int .i64 c.G, .int .i64 c.F], .int .i64 x] w fun e w' => e = .returned (.int .i64 (pairM c.N c.P x)) ∧ Below w.heap.size w w' := by
  have hP := (hc.al (.cells #[.int .i64 c.N, .slice c.pA c.pn c.pc, .slice c.sA c.sn c.sc, .int .i64 c.L, .slice c.bA c.bn c.bc, .slice c.tA c.tn c.tc, .int .i64 c.M, .int .i64 c.G, .int .i64 c.F] 25)).p
  have HL := Lib.hid hc.p.len
  have hfew := hc.few.1
  clear hc
  go_enter Tryd.func22, Tryd.ntmps22
  go_wp2_with fail
  go_loop [5] (fun i => ∃ k : Nat, k ≤ c.pn ∧ i = .int .i64 k ∧ Hid (∀ j, j < k → hitB c.N x (c.P.getD j 0) = false)) (fun i => c.pn - (intOf i).toNat)
  case atStart => exact ⟨0, Nat.zero_le _, rfl, Lib.hid fun j hj => absurd hj (by omega)⟩
  case round =>
    obtain ⟨k, hk, rfl, ht⟩ := hrel
    by_cases hlt : k < c.pn
    · obtain ⟨b, off, hA, hbl, hcc⟩ := hP.at_ (by omega)
      have hcell := hcc k hlt
      have hix := fun W => idxNums (n := c.pn) c.pc hA hlt W
      have HH := Lib.hid (pair_hit (N := c.N) (P := c.P) (x := x) k (by have := HL.out; omega) ht.out)
      have HN := Lib.hid (show hitB c.N x (c.P.getD k 0) = false → ∀ j, j < k + 1 → hitB c.N x (c.P.getD j 0) = false from fun h j hj => by
        rcases Nat.lt_succ_iff_lt_or_eq.1 hj with q | q
        · exact ht.out j q
        · rw [q]; exact h)
      obtain ⟨a, ha⟩ : ∃ a, a = c.P.getD k 0 := ⟨_, rfl⟩
      rw [← ha] at hcell HH HN
      clear hcc hA ha
      by_cases h1 : x = a
      · subst h1
        have HX := Lib.hid (HH.out (by simp [hitB]))
        go_wp2_with fail
        go_ret
        exact ⟨ret_int HX.out.symm, below_al (Below.refl _ _) _⟩
      · have e1 := beq_eq_false_iff_ne.2 h1
        by_cases h2 : x = stepM c.N 0 a 1
        · have HX := Lib.hid (HH.out (by simp [hitB, ← h2]))
          have HST := Lib.hid h2.symm
          clear h1 h2
          go_wp2_with (go_at_call 44; (with_reducible refine (refStep_any c.N 0 a 1 _ (by omega) (by omega)).mono ?_); rintro e w2 ⟨rfl, rfl⟩; rw [HST.out])
          go_ret
          exact ⟨ret_int HX.out.symm, below_al (Below.refl _ _) _⟩
        · have HX := Lib.hid (HN.out (by simp [hitB, h1, h2]))
          obtain ⟨y, hy⟩ : ∃ y, y = stepM c.N 0 a 1 := ⟨_, rfl⟩
          rw [← hy] at h2
          have HST := Lib.hid hy.symm
          have e2 := beq_eq_false_iff_ne.2 h2
          clear h1 h2 hy
          go_wp2_with (go_at_call 44; (with_reducible refine (refStep_any c.N 0 a 1 _ (by omega) (by omega)).mono ?_); rintro e w2 ⟨rfl, rfl⟩; rw [HST.out])
          go_round
          case rel => exact ⟨k + 1, by omega, by go_num, HX⟩
          case measure => simp [intOf]; omega
    · have HX := Lib.hid (pair_none (N := c.N) (P := c.P) (x := x) fun j hj => ht.out j (by have := HL.out; omega))
      go_wp2_with fail
      go_ret
      exact ⟨ret_int HX.out.symm, below_al (Below.refl _ _) _⟩
theorem refPair_is (c : Cf) (x p : Int) (hp : pairM c.N c.P x = p) (w : World) (hc : CfIn w c) :
    Calls Tryd.prog 22 #[.agg #[.int .i64 c.N, .slice c.pA c.pn c.pc, .slice c.sA c.sn c.sc, .int .i64 c.L, .slice c.bA c.bn c.bc, .slice c.tA c.tn c.tc, .int .i64 c.M, .int .i64 c.G, .int .i64 c.F], .int .i64 x] w fun e w' => e = .returned (.int .i64 p) ∧ Below w.heap.size w w' := by
  subst hp; exact refPair_any c x w hc

/-- The first other node of a node's pair is its partner. -/
theorem part_hit {N : Int} {P : List Int} (hN : 4 ≤ N ∧ N ≤ 16) (h : okP N P) {x i : Int} (hne : i ≠ x) (h0 : 0 ≤ pairM N P i) (he : pairM N P i = pairM N P x) : partM N P x = i := by
  rcases pair_cases N P x with ⟨e, _⟩ | ⟨q, hq, e, hh⟩
  · omega
  · rcases pair_cases N P i with ⟨e', _⟩ | ⟨q', hq', e', hh'⟩
    · omega
    · obtain rfl : q = q' := by omega
      obtain ⟨k, hk, _, _, hor⟩ := part_some hN h hq hh
      rw [hit_iff hN (okP_at h q hq)] at hh'
      rw [hk]
      omega
theorem part_miss {N : Int} {P : List Int} (hN : 4 ≤ N ∧ N ≤ 16) (h : okP N P) {x : Int} (hm : ∀ i : Nat, (i : Int) < N → ¬ ((i : Int) ≠ x ∧ 0 ≤ pairM N P i ∧ pairM N P i = pairM N P x)) : partM N P x = -1 := by
  rcases pair_cases N P x with ⟨e, _⟩ | ⟨q, hq, e, hh⟩
  · rw [partM, e, atM_neg]
    split
    · rename_i hx; subst hx; rw [step_no 1 (bfalse fun hq => by have := ex1.1 hq; omega)]
    · rfl
  · obtain ⟨k, hk, hkp, _, hor⟩ := part_some hN h hq hh
    have a := okP_at h q hq
    have m := mod1 hN.1 a
    exact absurd ⟨by omega, by rw [Int.toNat_of_nonneg (by omega), hkp]; omega, by rw [Int.toNat_of_nonneg (by omega), hkp, e]⟩ (hm k.toNat (by omega))

set_option maxRecDepth 100000 in
set_option maxHeartbeats 2000000 in
theorem refPartner_is (c : Cf) (nd r : Int) (hr : partM c.N c.P nd = r) (w : World) (hc : CfIn w c) (hok : CfOk c) :
    Calls Tryd.prog 24 #[.agg #[.int .i64 c.N, .slice c.pA c.pn c.pc, .slice c.sA c.sn c.sc, .int .i64 c.L, .slice c.bA c.bn c.bc, .slice c.tA c.tn c.tc, .int .i64 c.M, .int .i64 c.G, .int .i64 c.F], .int .i64 nd] w fun e w' => e = .returned (.int .i64 r) ∧ Below w.heap.size w w' := by
  obtain ⟨hn1, hn2⟩ := hok.nodes
  have HOK := Lib.hid hok
  have HC := Lib.hid hc
  have HR := Lib.hid hr
  obtain ⟨px, hpx⟩ : ∃ p, p = pairM c.N c.P nd := ⟨_, rfl⟩
  have HX := Lib.hid hpx.symm
  clear hok hc hr hpx
  go_enter Tryd.func24, Tryd.ntmps24
  go_wp2_with fail
  go_loopw [5] (fun s wr => ∃ i : Nat, (i : Int) ≤ c.N ∧ s = .int .i64 i ∧ Hid (∀ j : Nat, j < i → ¬ ((j : Int) ≠ nd ∧ 0 ≤ pairM c.N c.P j ∧ pairM c.N c.P j = pairM c.N c.P nd)) ∧ Blk wr w.heap.size 25 #[.int .i64 c.N, .slice c.pA c.pn c.pc, .slice c.sA c.sn c.sc, .int .i64 c.L, .slice c.bA c.bn c.bc, .slice c.tA c.tn c.tc, .int .i64 c.M, .int .i64 c.G, .int .i64 c.F] ∧ Below w.heap.size w wr) (fun s _ => (c.N - intOf s).toNat)
  case atStart => exact ⟨0, by omega, rfl, Lib.hid fun j hj => absurd hj (by omega), Blk.new w _ _, below_al (Below.refl _ _) _⟩
  case round =>
    obtain ⟨i, hi, rfl, ht, hB, hb⟩ := hrel
    obtain ⟨k0, k1, k2, k3, k4, k5, k6, k7, k8⟩ := hB.cf
    by_cases hlt : (i : Int) < c.N
    · have HN := Lib.hid (show ¬ ((i : Int) ≠ nd ∧ 0 ≤ pairM c.N c.P i ∧ pairM c.N c.P i = pairM c.N c.P nd) → ∀ j : Nat, j < i + 1 → ¬ ((j : Int) ≠ nd ∧ 0 ≤ pairM c.N c.P j ∧ pairM c.N c.P j = pairM c.N c.P nd) from fun h j hj => by
        rcases Nat.lt_succ_iff_lt_or_eq.1 hj with q | q
        · exact ht.out j q
        · rw [q]; exact h)
      obtain ⟨p, hp⟩ : ∃ p, p = pairM c.N c.P i := ⟨_, rfl⟩
      have HP := Lib.hid hp.symm
      clear hp
      by_cases hix : (i : Int) = nd
      · have HNO := Lib.hid (show ¬ ((i : Int) ≠ nd ∧ 0 ≤ pairM c.N c.P i ∧ pairM c.N c.P i = pairM c.N c.P nd) from fun q => q.1 hix)
        have hne : ((i : Int) != nd) = false := by simp [hix]
        clear hix
        go_wp2_with fail
        clear k0 k1 k2 k3 k4 k5 k6 k7 k8
        refine Reg.wp_slots (fun t => decide (12 ≤ t) && decide (t ≤ 29)) (by kernel_rfl) (by kernel_rfl) (by kernel_rfl) (fun zz => (Reg.tbl [
          (12, .is (.int .i64 (i : Int))),
          (13, .is (.int .i64 nd)),
          (14, .is (.bool false)),
          (15, .is (.bool false)),
          (16, .is (undef)),
          (17, .is (undef)),
          (18, .is (undef)),
          (19, .is (undef)),
          (20, .is (.bool false)),
          (21, .is (.bool false)),
          (22, .is (undef)),
          (23, .is (undef)),
          (24, .is (undef)),
          (25, .is (undef)),
          (26, .is (undef)),
          (27, .is (undef)),
          (28, .is (undef)),
          (29, .is (.bool false))] zz).P) (fun zz => (Reg.tbl _ zz).on) ?_ ?_
        · simp only [Reg.frame, Reg.over, Nat.reduceAdd, Nat.reduceLeDiff, decide_true, decide_false, Bool.and_true, Bool.and_false, if_true, Bool.false_eq_true, if_false]
          refine ⟨?_, ?_, ?_, ?_, ?_, ?_, ?_, ?_, ?_, ?_, ?_, ?_, ?_, ?_, ?_, ?_, ?_, ?_, trivial⟩
          · intro x u hbu hd
            refine wpOp_step rfl fun K hK => ?_
            go_simp
            exact hK _ _ ⟨_, rfl, Below.refl _ _, fun d hd => by cases hd; exact rfl⟩
          · intro x u hbu hd
            refine wpOp_step rfl fun K hK => ?_
            go_simp
            exact hK _ _ ⟨_, rfl, Below.refl _ _, fun d hd => by cases hd; exact rfl⟩
          · intro x u hbu hd
            have h12 : x 12 = .int .i64 (i : Int) := hd 0 (by decide)
            have h13 : x 13 = .int .i64 nd := hd 1 (by decide)
            refine wpOp_step rfl fun K hK => ?_
            simp only [h12, h13] at hK ⊢
            go_simp
            exact hK _ _ ⟨_, rfl, Below.refl _ _, fun d hd => by cases hd; exact rfl⟩
          · intro x u hbu hd
            have h14 : x 14 = .bool false := hd 2 (by decide)
            refine wpOp_step rfl fun K hK => ?_
            simp only [h14] at hK ⊢
            go_simp
            exact hK _ _ ⟨_, rfl, Below.refl _ _, fun d hd => by cases hd; exact rfl⟩
          · intro x u hbu hd
            have h15 : x 15 = .bool false := hd 3 (by decide)
            refine wpOp_step rfl fun K hK => ?_
            simp only [h15] at hK ⊢
            go_simp
            exact hK _ _ ⟨_, rfl, Below.refl _ _, fun d hd => by cases hd; exact rfl⟩
          · intro x u hbu hd
            have h15 : x 15 = .bool false := hd 3 (by decide)
            refine wpOp_step rfl fun K hK => ?_
            simp only [h15] at hK ⊢
            go_simp
            exact hK _ _ ⟨_, rfl, Below.refl _ _, fun d hd => by cases hd; exact rfl⟩
          · intro x u hbu hd
            have h16 : x 16 = undef := hd 4 (by decide)
            have h17 : x 17 = undef := hd 5 (by decide)
            have h15 : x 15 = .bool false := hd 3 (by decide)
            refine wpOp_step rfl fun K hK => ?_
            simp only [h16, h17, h15] at hK ⊢
            go_simp
            exact hK _ _ ⟨_, rfl, Below.refl _ _, fun d hd => by cases hd; exact rfl⟩
          · intro x u hbu hd
            have h18 : x 18 = undef := hd 6 (by decide)
            have h15 : x 15 = .bool false := hd 3 (by decide)
            refine wpOp_step rfl fun K hK => ?_
            simp only [h18, h15] at hK ⊢
            go_simp
            exact hK _ _ ⟨_, rfl, Below.refl _ _, fun d hd => by cases hd; exact rfl⟩
          · intro x u hbu hd
            have h15 : x 15 = .bool false := hd 3 (by decide)
            have h19 : x 19 = undef := hd 7 (by decide)
            refine wpOp_step rfl fun K hK => ?_
            simp only [h15, h19] at hK ⊢
            go_simp
            exact hK _ _ ⟨_, rfl, Below.refl _ _, fun d hd => by cases hd; exact rfl⟩
          · intro x u hbu hd
            have h20 : x 20 = .bool false := hd 8 (by decide)
            refine wpOp_step rfl fun K hK => ?_
            simp only [h20] at hK ⊢
            go_simp
            exact hK _ _ ⟨_, rfl, Below.refl _ _, fun d hd => by cases hd; exact rfl⟩
          · intro x u hbu hd
            have h21 : x 21 = .bool false := hd 9 (by decide)
            refine wpOp_step rfl fun K hK => ?_
            simp only [h21] at hK ⊢
            go_simp
            exact hK _ _ ⟨_, rfl, Below.refl _ _, fun d hd => by cases hd; exact rfl⟩
          · intro x u hbu hd
            have h21 : x 21 = .bool false := hd 9 (by decide)
            refine wpOp_step rfl fun K hK => ?_
            simp only [h21] at hK ⊢
            go_simp
            exact hK _ _ ⟨_, rfl, Below.refl _ _, fun d hd => by cases hd; exact rfl⟩
          · intro x u hbu hd
            have h22 : x 22 = undef := hd 10 (by decide)
            have h23 : x 23 = undef := hd 11 (by decide)
            have h21 : x 21 = .bool false := hd 9 (by decide)
            refine wpOp_step rfl fun K hK => ?_
            simp only [h22, h23, h21] at hK ⊢
            go_simp
            exact hK _ _ ⟨_, rfl, Below.refl _ _, fun d hd => by cases hd; exact rfl⟩
          · intro x u hbu hd
            have h21 : x 21 = .bool false := hd 9 (by decide)
            refine wpOp_step rfl fun K hK => ?_
            simp only [h21] at hK ⊢
            go_simp
            exact hK _ _ ⟨_, rfl, Below.refl _ _, fun d hd => by cases hd; exact rfl⟩
          · intro x u hbu hd
            have h21 : x 21 = .bool false := hd 9 (by decide)
            refine wpOp_step rfl fun K hK => ?_
            simp only [h21] at hK ⊢
            go_simp
            exact hK _ _ ⟨_, rfl, Below.refl _ _, fun d hd => by cases hd; exact rfl⟩
          · intro x u hbu hd
            have h25 : x 25 = undef := hd 13 (by decide)
            have h26 : x 26 = undef := hd 14 (by decide)
            have h21 : x 21 = .bool false := hd 9 (by decide)
            refine wpOp_step rfl fun K hK => ?_
            simp only [h25, h26, h21] at hK ⊢
            go_simp
            exact hK _ _ ⟨_, rfl, Below.refl _ _, fun d hd => by cases hd; exact rfl⟩
          · intro x u hbu hd
            have h24 : x 24 = undef := hd 12 (by decide)
            have h27 : x 27 = undef := hd 15 (by decide)
            have h21 : x 21 = .bool false := hd 9 (by decide)
            refine wpOp_step rfl fun K hK => ?_
            simp only [h24, h27, h21] at hK ⊢
            go_simp
            exact hK _ _ ⟨_, rfl, Below.refl _ _, fun d hd => by cases hd; exact rfl⟩
          · intro x u hbu hd
            have h21 : x 21 = .bool false := hd 9 (by decide)
            have h28 : x 28 = undef := hd 16 (by decide)
            refine wpOp_step rfl fun K hK => ?_
            simp only [h21, h28] at hK ⊢
            go_simp
            exact hK _ _ ⟨_, rfl, Below.refl _ _, fun d hd => by cases hd; exact rfl⟩
        · intro x' U hU hd
          have h29 : x' 29 = .bool false := hd 17 (by decide)
          simp only [Reg.frame, Reg.over, Nat.reduceAdd, Nat.reduceLeDiff, decide_true, decide_false, Bool.and_true, Bool.and_false, if_true, Bool.false_eq_true, if_false, h29]
          go_wp2_with fail
          go_roundw
          case rel => exact ⟨i + 1, by omega, by go_num, Lib.hid (HN.out HNO.out), hB.on hU, below_then hb hU⟩
          case measure => simp [intOf]; omega
      · have hne : ((i : Int) != nd) = true := by simpa using hix
        have HIX := Lib.hid hix
        clear hix
        by_cases hp0 : p < 0
        · have HNO := Lib.hid (show ¬ ((i : Int) ≠ nd ∧ 0 ≤ pairM c.N c.P i ∧ pairM c.N c.P i = pairM c.N c.P nd) from fun q => by have := q.2.1; rw [HP.out] at this; omega)
          have hd : decide (0 ≤ p) = false := decide_eq_false (by omega)
          go_wp2_with fail
          clear k0 k1 k2 k3 k4 k5 k6 k7 k8
          refine Reg.wp_slots (fun t => decide (12 ≤ t) && decide (t ≤ 29)) (by kernel_rfl) (by kernel_rfl) (by kernel_rfl) (fun zz => (Reg.tbl [
            (12, .is (.int .i64 (i : Int))),
            (13, .is (.int .i64 nd)),
            (14, .is (.bool true)),
            (15, .is (.bool true)),
            (16, .is (.agg #[.int .i64 c.N, .slice c.pA c.pn c.pc, .slice c.sA c.sn c.sc, .int .i64 c.L, .slice c.bA c.bn c.bc, .slice c.tA c.tn c.tc, .int .i64 c.M, .int .i64 c.G, .int .i64 c.F])),
            (17, .is (.int .i64 (i : Int))),
            (18, .is (.int .i64 p)),
            (19, .is (.bool false)),
            (20, .is (.bool false)),
            (21, .is (.bool false)),
            (22, .is (undef)),
            (23, .is (undef)),
            (24, .is (undef)),
            (25, .is (undef)),
            (26, .is (undef)),
            (27, .is (undef)),
            (28, .is (undef)),
            (29, .is (.bool false))] zz).P) (fun zz => (Reg.tbl _ zz).on) ?_ ?_
          · simp only [Reg.frame, Reg.over, Nat.reduceAdd, Nat.reduceLeDiff, decide_true, decide_false, Bool.and_true, Bool.and_false, if_true, Bool.false_eq_true, if_false]
            refine ⟨?_, ?_, ?_, ?_, ?_, ?_, ?_, ?_, ?_, ?_, ?_, ?_, ?_, ?_, ?_, ?_, ?_, ?_, trivial⟩
            · intro x u hbu hd
              refine wpOp_step rfl fun K hK => ?_
              go_simp
              exact hK _ _ ⟨_, rfl, Below.refl _ _, fun d hd => by cases hd; exact rfl⟩
            · intro x u hbu hd
              refine wpOp_step rfl fun K hK => ?_
              go_simp
              exact hK _ _ ⟨_, rfl, Below.refl _ _, fun d hd => by cases hd; exact rfl⟩
            · intro x u hbu hd
              have h12 : x 12 = .int .i64 (i : Int) := hd 0 (by decide)
              have h13 : x 13 = .int .i64 nd := hd 1 (by decide)
              refine wpOp_step rfl fun K hK => ?_
              simp only [h12, h13] at hK ⊢
              go_simp
              exact hK _ _ ⟨_, rfl, Below.refl _ _, fun d hd => by cases hd; exact rfl⟩
            · intro x u hbu hd
              have h14 : x 14 = .bool true := hd 2 (by decide)
              refine wpOp_step rfl fun K hK => ?_
              simp only [h14] at hK ⊢
              go_simp
              exact hK _ _ ⟨_, rfl, Below.refl _ _, fun d hd => by cases hd; exact rfl⟩
            · intro x u hbu hd
              have h15 : x 15 = .bool true := hd 3 (by decide)
              obtain ⟨z0, z1, z2, z3, z4, z5, z6, z7, z8⟩ := (hB.on hbu).cf
              refine wpOp_step rfl fun K hK => ?_
              simp only [h15] at hK ⊢
              go_simp
              exact hK _ _ ⟨_, rfl, Below.refl _ _, fun d hd => by cases hd; exact rfl⟩
            · intro x u hbu hd
              have h15 : x 15 = .bool true := hd 3 (by decide)
              refine wpOp_step rfl fun K hK => ?_
              simp only [h15] at hK ⊢
              go_simp
              exact hK _ _ ⟨_, rfl, Below.refl _ _, fun d hd => by cases hd; exact rfl⟩
            · intro x u hbu hd
              have h16 : x 16 = .agg #[.int .i64 c.N, .slice c.pA c.pn c.pc, .slice c.sA c.sn c.sc, .int .i64 c.L, .slice c.bA c.bn c.bc, .slice c.tA c.tn c.tc, .int .i64 c.M, .int .i64 c.G, .int .i64 c.F] := hd 4 (by decide)
              have h17 : x 17 = .int .i64 (i : Int) := hd 5 (by decide)
              have h15 : x 15 = .bool true := hd 3 (by decide)
              refine wpOp_step rfl fun K hK => ?_
              simp only [h16, h17, h15] at hK ⊢
              go_simp
              with_reducible refine (refPair_is c i p HP.out u (HC.out.on (below_then hb hbu))).mono ?_
              rintro e u' ⟨rfl, hb'⟩
              exact hK _ _ ⟨_, rfl, hb', fun d hd => by cases hd; exact rfl⟩
            · intro x u hbu hd
              have h18 : x 18 = .int .i64 p := hd 6 (by decide)
              have h15 : x 15 = .bool true := hd 3 (by decide)
              refine wpOp_step rfl fun K hK => ?_
              simp only [h18, h15] at hK ⊢
              go_simp
              exact hK _ _ ⟨_, rfl, Below.refl _ _, fun d hd => by cases hd; exact rfl⟩
            · intro x u hbu hd
              have h15 : x 15 = .bool true := hd 3 (by decide)
              have h19 : x 19 = .bool false := hd 7 (by decide)
              refine wpOp_step rfl fun K hK => ?_
              simp only [h15, h19] at hK ⊢
              go_simp
              exact hK _ _ ⟨_, rfl, Below.refl _ _, fun d hd => by cases hd; exact rfl⟩
            · intro x u hbu hd
              have h20 : x 20 = .bool false := hd 8 (by decide)
              refine wpOp_step rfl fun K hK => ?_
              simp only [h20] at hK ⊢
              go_simp
              exact hK _ _ ⟨_, rfl, Below.refl _ _, fun d hd => by cases hd; exact rfl⟩
            · intro x u hbu hd
              have h21 : x 21 = .bool false := hd 9 (by decide)
              refine wpOp_step rfl fun K hK => ?_
              simp only [h21] at hK ⊢
              go_simp
              exact hK _ _ ⟨_, rfl, Below.refl _ _, fun d hd => by cases hd; exact rfl⟩
            · intro x u hbu hd
              have h21 : x 21 = .bool false := hd 9 (by decide)
              refine wpOp_step rfl fun K hK => ?_
              simp only [h21] at hK ⊢
              go_simp
              exact hK _ _ ⟨_, rfl, Below.refl _ _, fun d hd => by cases hd; exact rfl⟩
            · intro x u hbu hd
              have h22 : x 22 = undef := hd 10 (by decide)
              have h23 : x 23 = undef := hd 11 (by decide)
              have h21 : x 21 = .bool false := hd 9 (by decide)
              refine wpOp_step rfl fun K hK => ?_
              simp only [h22, h23, h21] at hK ⊢
              go_simp
              exact hK _ _ ⟨_, rfl, Below.refl _ _, fun d hd => by cases hd; exact rfl⟩
            · intro x u hbu hd
              have h21 : x 21 = .bool false := hd 9 (by decide)
              refine wpOp_step rfl fun K hK => ?_
              simp only [h21] at hK ⊢
              go_simp
              exact hK _ _ ⟨_, rfl, Below.refl _ _, fun d hd => by cases hd; exact rfl⟩
            · intro x u hbu hd
              have h21 : x 21 = .bool false := hd 9 (by decide)
              refine wpOp_step rfl fun K hK => ?_
              simp only [h21] at hK ⊢
              go_simp
              exact hK _ _ ⟨_, rfl, Below.refl _ _, fun d hd => by cases hd; exact rfl⟩
            · intro x u hbu hd
              have h25 : x 25 = undef := hd 13 (by decide)
              have h26 : x 26 = undef := hd 14 (by decide)
              have h21 : x 21 = .bool false := hd 9 (by decide)
              refine wpOp_step rfl fun K hK => ?_
              simp only [h25, h26, h21] at hK ⊢
              go_simp
              exact hK _ _ ⟨_, rfl, Below.refl _ _, fun d hd => by cases hd; exact rfl⟩
            · intro x u hbu hd
              have h24 : x 24 = undef := hd 12 (by decide)
              have h27 : x 27 = undef := hd 15 (by decide)
              have h21 : x 21 = .bool false := hd 9 (by decide)
              refine wpOp_step rfl fun K hK => ?_
              simp only [h24, h27, h21] at hK ⊢
              go_simp
              exact hK _ _ ⟨_, rfl, Below.refl _ _, fun d hd => by cases hd; exact rfl⟩
            · intro x u hbu hd
              have h21 : x 21 = .bool false := hd 9 (by decide)
              have h28 : x 28 = undef := hd 16 (by decide)
              refine wpOp_step rfl fun K hK => ?_
              simp only [h21, h28] at hK ⊢
              go_simp
              exact hK _ _ ⟨_, rfl, Below.refl _ _, fun d hd => by cases hd; exact rfl⟩
          · intro x' U hU hd
            have h29 : x' 29 = .bool false := hd 17 (by decide)
            simp only [Reg.frame, Reg.over, Nat.reduceAdd, Nat.reduceLeDiff, decide_true, decide_false, Bool.and_true, Bool.and_false, if_true, Bool.false_eq_true, if_false, h29]
            go_wp2_with fail
            go_roundw
            case rel => exact ⟨i + 1, by omega, by go_num, Lib.hid (HN.out HNO.out), hB.on hU, below_then hb hU⟩
            case measure => simp [intOf]; omega
        · have hp0' : 0 ≤ p := by omega
          have hd : decide (0 ≤ p) = true := decide_eq_true hp0'
          clear hp0
          by_cases hpe : p = px
          · have HRES := Lib.hid (show r = (i : Int) from HR.out.symm.trans (part_hit ⟨hn1, hn2⟩ HOK.out.okP HIX.out (by rw [HP.out]; exact hp0') (by rw [HP.out, HX.out]; exact hpe)))
            have he : (p == px) = true := beq_iff_eq.2 hpe
            clear hpe
            go_wp2_with fail
            clear k0 k1 k2 k3 k4 k5 k6 k7 k8
            refine Reg.wp_slots (fun t => decide (12 ≤ t) && decide (t ≤ 29)) (by kernel_rfl) (by kernel_rfl) (by kernel_rfl) (fun zz => (Reg.tbl [
              (12, .is (.int .i64 (i : Int))),
              (13, .is (.int .i64 nd)),
              (14, .is (.bool true)),
              (15, .is (.bool true)),
              (16, .is (.agg #[.int .i64 c.N, .slice c.pA c.pn c.pc, .slice c.sA c.sn c.sc, .int .i64 c.L, .slice c.bA c.bn c.bc, .slice c.tA c.tn c.tc, .int .i64 c.M, .int .i64 c.G, .int .i64 c.F])),
              (17, .is (.int .i64 (i : Int))),
              (18, .is (.int .i64 p)),
              (19, .is (.bool true)),
              (20, .is (.bool true)),
              (21, .is (.bool true)),
              (22, .is (.agg #[.int .i64 c.N, .slice c.pA c.pn c.pc, .slice c.sA c.sn c.sc, .int .i64 c.L, .slice c.bA c.bn c.bc, .slice c.tA c.tn c.tc, .int .i64 c.M, .int .i64 c.G, .int .i64 c.F])),
              (23, .is (.int .i64 (i : Int))),
              (24, .is (.int .i64 p)),
              (25, .is (.agg #[.int .i64 c.N, .slice c.pA c.pn c.pc, .slice c.sA c.sn c.sc, .int .i64 c.L, .slice c.bA c.bn c.bc, .slice c.tA c.tn c.tc, .int .i64 c.M, .int .i64 c.G, .int .i64 c.F])),
              (26, .is (.int .i64 nd)),
              (27, .is (.int .i64 px)),
              (28, .is (.bool true)),
              (29, .is (.bool true))] zz).P) (fun zz => (Reg.tbl _ zz).on) ?_ ?_
            · simp only [Reg.frame, Reg.over, Nat.reduceAdd, Nat.reduceLeDiff, decide_true, decide_false, Bool.and_true, Bool.and_false, if_true, Bool.false_eq_true, if_false]
              refine ⟨?_, ?_, ?_, ?_, ?_, ?_, ?_, ?_, ?_, ?_, ?_, ?_, ?_, ?_, ?_, ?_, ?_, ?_, trivial⟩
              · intro x u hbu hd
                refine wpOp_step rfl fun K hK => ?_
                go_simp
                exact hK _ _ ⟨_, rfl, Below.refl _ _, fun d hd => by cases hd; exact rfl⟩
              · intro x u hbu hd
                refine wpOp_step rfl fun K hK => ?_
                go_simp
                exact hK _ _ ⟨_, rfl, Below.refl _ _, fun d hd => by cases hd; exact rfl⟩
              · intro x u hbu hd
                have h12 : x 12 = .int .i64 (i : Int) := hd 0 (by decide)
                have h13 : x 13 = .int .i64 nd := hd 1 (by decide)
                refine wpOp_step rfl fun K hK => ?_
                simp only [h12, h13] at hK ⊢
                go_simp
                exact hK _ _ ⟨_, rfl, Below.refl _ _, fun d hd => by cases hd; exact rfl⟩
              · intro x u hbu hd
                have h14 : x 14 = .bool true := hd 2 (by decide)
                refine wpOp_step rfl fun K hK => ?_
                simp only [h14] at hK ⊢
                go_simp
                exact hK _ _ ⟨_, rfl, Below.refl _ _, fun d hd => by cases hd; exact rfl⟩
              · intro x u hbu hd
                have h15 : x 15 = .bool true := hd 3 (by decide)
                obtain ⟨z0, z1, z2, z3, z4, z5, z6, z7, z8⟩ := (hB.on hbu).cf
                refine wpOp_step rfl fun K hK => ?_
                simp only [h15] at hK ⊢
                go_simp
                exact hK _ _ ⟨_, rfl, Below.refl _ _, fun d hd => by cases hd; exact rfl⟩
              · intro x u hbu hd
                have h15 : x 15 = .bool true := hd 3 (by decide)
                refine wpOp_step rfl fun K hK => ?_
                simp only [h15] at hK ⊢
                go_simp
                exact hK _ _ ⟨_, rfl, Below.refl _ _, fun d hd => by cases hd; exact rfl⟩
              · intro x u hbu hd
                have h16 : x 16 = .agg #[.int .i64 c.N, .slice c.pA c.pn c.pc, .slice c.sA c.sn c.sc, .int .i64 c.L, .slice c.bA c.bn c.bc, .slice c.tA c.tn c.tc, .int .i64 c.M, .int .i64 c.G, .int .i64 c.F] := hd 4 (by decide)
                have h17 : x 17 = .int .i64 (i : Int) := hd 5 (by decide)
                have h15 : x 15 = .bool true := hd 3 (by decide)
                refine wpOp_step rfl fun K hK => ?_
                simp only [h16, h17, h15] at hK ⊢
                go_simp
                with_reducible refine (refPair_is c i p HP.out u (HC.out.on (below_then hb hbu))).mono ?_
                rintro e u' ⟨rfl, hb'⟩
                exact hK _ _ ⟨_, rfl, hb', fun d hd => by cases hd; exact rfl⟩
              · intro x u hbu hd
                have h18 : x 18 = .int .i64 p := hd 6 (by decide)
                have h15 : x 15 = .bool true := hd 3 (by decide)
                refine wpOp_step rfl fun K hK => ?_
                simp only [h18, h15] at hK ⊢
                go_simp
                exact hK _ _ ⟨_, rfl, Below.refl _ _, fun d hd => by cases hd; exact rfl⟩
              · intro x u hbu hd
                have h15 : x 15 = .bool true := hd 3 (by decide)
                have h19 : x 19 = .bool true := hd 7 (by decide)
                refine wpOp_step rfl fun K hK => ?_
                simp only [h15, h19] at hK ⊢
                go_simp
                exact hK _ _ ⟨_, rfl, Below.refl _ _, fun d hd => by cases hd; exact rfl⟩
              · intro x u hbu hd
                have h20 : x 20 = .bool true := hd 8 (by decide)
                refine wpOp_step rfl fun K hK => ?_
                simp only [h20] at hK ⊢
                go_simp
                exact hK _ _ ⟨_, rfl, Below.refl _ _, fun d hd => by cases hd; exact rfl⟩
              · intro x u hbu hd
                have h21 : x 21 = .bool true := hd 9 (by decide)
                obtain ⟨z0, z1, z2, z3, z4, z5, z6, z7, z8⟩ := (hB.on hbu).cf
                refine wpOp_step rfl fun K hK => ?_
                simp only [h21] at hK ⊢
                go_simp
                exact hK _ _ ⟨_, rfl, Below.refl _ _, fun d hd => by cases hd; exact rfl⟩
              · intro x u hbu hd
                have h21 : x 21 = .bool true := hd 9 (by decide)
                refine wpOp_step rfl fun K hK => ?_
                simp only [h21] at hK ⊢
                go_simp
                exact hK _ _ ⟨_, rfl, Below.refl _ _, fun d hd => by cases hd; exact rfl⟩
              · intro x u hbu hd
                have h22 : x 22 = .agg #[.int .i64 c.N, .slice c.pA c.pn c.pc, .slice c.sA c.sn c.sc, .int .i64 c.L, .slice c.bA c.bn c.bc, .slice c.tA c.tn c.tc, .int .i64 c.M, .int .i64 c.G, .int .i64 c.F] := hd 10 (by decide)
                have h23 : x 23 = .int .i64 (i : Int) := hd 11 (by decide)
                have h21 : x 21 = .bool true := hd 9 (by decide)
                refine wpOp_step rfl fun K hK => ?_
                simp only [h22, h23, h21] at hK ⊢
                go_simp
                with_reducible refine (refPair_is c i p HP.out u (HC.out.on (below_then hb hbu))).mono ?_
                rintro e u' ⟨rfl, hb'⟩
                exact hK _ _ ⟨_, rfl, hb', fun d hd => by cases hd; exact rfl⟩
              · intro x u hbu hd
                have h21 : x 21 = .bool true := hd 9 (by decide)
                obtain ⟨z0, z1, z2, z3, z4, z5, z6, z7, z8⟩ := (hB.on hbu).cf
                refine wpOp_step rfl fun K hK => ?_
                simp only [h21] at hK ⊢
                go_simp
                exact hK _ _ ⟨_, rfl, Below.refl _ _, fun d hd => by cases hd; exact rfl⟩
              · intro x u hbu hd
                have h21 : x 21 = .bool true := hd 9 (by decide)
                refine wpOp_step rfl fun K hK => ?_
                simp only [h21] at hK ⊢
                go_simp
                exact hK _ _ ⟨_, rfl, Below.refl _ _, fun d hd => by cases hd; exact rfl⟩
              · intro x u hbu hd
                have h25 : x 25 = .agg #[.int .i64 c.N, .slice c.pA c.pn c.pc, .slice c.sA c.sn c.sc, .int .i64 c.L, .slice c.bA c.bn c.bc, .slice c.tA c.tn c.tc, .int .i64 c.M, .int .i64 c.G, .int .i64 c.F] := hd 13 (by decide)
                have h26 : x 26 = .int .i64 nd := hd 14 (by decide)
                have h21 : x 21 = .bool true := hd 9 (by decide)
                refine wpOp_step rfl fun K hK => ?_
                simp only [h25, h26, h21] at hK ⊢
                go_simp
                with_reducible refine (refPair_is c nd px HX.out u (HC.out.on (below_then hb hbu))).mono ?_
                rintro e u' ⟨rfl, hb'⟩
                exact hK _ _ ⟨_, rfl, hb', fun d hd => by cases hd; exact rfl⟩
              · intro x u hbu hd
                have h24 : x 24 = .int .i64 p := hd 12 (by decide)
                have h27 : x 27 = .int .i64 px := hd 15 (by decide)
                have h21 : x 21 = .bool true := hd 9 (by decide)
                refine wpOp_step rfl fun K hK => ?_
                simp only [h24, h27, h21] at hK ⊢
                go_simp
                exact hK _ _ ⟨_, rfl, Below.refl _ _, fun d hd => by cases hd; exact rfl⟩
              · intro x u hbu hd
                have h21 : x 21 = .bool true := hd 9 (by decide)
                have h28 : x 28 = .bool true := hd 16 (by decide)
                refine wpOp_step rfl fun K hK => ?_
                simp only [h21, h28] at hK ⊢
                go_simp
                exact hK _ _ ⟨_, rfl, Below.refl _ _, fun d hd => by cases hd; exact rfl⟩
            · intro x' U hU hd
              have h29 : x' 29 = .bool true := hd 17 (by decide)
              simp only [Reg.frame, Reg.over, Nat.reduceAdd, Nat.reduceLeDiff, decide_true, decide_false, Bool.and_true, Bool.and_false, if_true, Bool.false_eq_true, if_false, h29]
              go_wp2_with fail
              go_ret
              exact ⟨ret_int HRES.out.symm, below_then hb hU⟩
          · have HNO := Lib.hid (show ¬ ((i : Int) ≠ nd ∧ 0 ≤ pairM c.N c.P i ∧ pairM c.N c.P i = pairM c.N c.P nd) from fun q => hpe (by have := q.2.2; rw [HP.out, HX.out] at this; exact this))
            have he := beq_eq_false_iff_ne.2 hpe
            clear hpe
            go_wp2_with fail
            clear k0 k1 k2 k3 k4 k5 k6 k7 k8
            refine Reg.wp_slots (fun t => decide (12 ≤ t) && decide (t ≤ 29)) (by kernel_rfl) (by kernel_rfl) (by kernel_rfl) (fun zz => (Reg.tbl [
              (12, .is (.int .i64 (i : Int))),
              (13, .is (.int .i64 nd)),
              (14, .is (.bool true)),
              (15, .is (.bool true)),
              (16, .is (.agg #[.int .i64 c.N, .slice c.pA c.pn c.pc, .slice c.sA c.sn c.sc, .int .i64 c.L, .slice c.bA c.bn c.bc, .slice c.tA c.tn c.tc, .int .i64 c.M, .int .i64 c.G, .int .i64 c.F])),
              (17, .is (.int .i64 (i : Int))),
              (18, .is (.int .i64 p)),
              (19, .is (.bool true)),
              (20, .is (.bool true)),
              (21, .is (.bool true)),
              (22, .is (.agg #[.int .i64 c.N, .slice c.pA c.pn c.pc, .slice c.sA c.sn c.sc, .int .i64 c.L, .slice c.bA c.bn c.bc, .slice c.tA c.tn c.tc, .int .i64 c.M, .int .i64 c.G, .int .i64 c.F])),
              (23, .is (.int .i64 (i : Int))),
              (24, .is (.int .i64 p)),
              (25, .is (.agg #[.int .i64 c.N, .slice c.pA c.pn c.pc, .slice c.sA c.sn c.sc, .int .i64 c.L, .slice c.bA c.bn c.bc, .slice c.tA c.tn c.tc, .int .i64 c.M, .int .i64 c.G, .int .i64 c.F])),
              (26, .is (.int .i64 nd)),
              (27, .is (.int .i64 px)),
              (28, .is (.bool false)),
              (29, .is (.bool false))] zz).P) (fun zz => (Reg.tbl _ zz).on) ?_ ?_
            · simp only [Reg.frame, Reg.over, Nat.reduceAdd, Nat.reduceLeDiff, decide_true, decide_false, Bool.and_true, Bool.and_false, if_true, Bool.false_eq_true, if_false]
              refine ⟨?_, ?_, ?_, ?_, ?_, ?_, ?_, ?_, ?_, ?_, ?_, ?_, ?_, ?_, ?_, ?_, ?_, ?_, trivial⟩
              · intro x u hbu hd
                refine wpOp_step rfl fun K hK => ?_
                go_simp
                exact hK _ _ ⟨_, rfl, Below.refl _ _, fun d hd => by cases hd; exact rfl⟩
              · intro x u hbu hd
                refine wpOp_step rfl fun K hK => ?_
                go_simp
                exact hK _ _ ⟨_, rfl, Below.refl _ _, fun d hd => by cases hd; exact rfl⟩
              · intro x u hbu hd
                have h12 : x 12 = .int .i64 (i : Int) := hd 0 (by decide)
                have h13 : x 13 = .int .i64 nd := hd 1 (by decide)
                refine wpOp_step rfl fun K hK => ?_
                simp only [h12, h13] at hK ⊢
                go_simp
                exact hK _ _ ⟨_, rfl, Below.refl _ _, fun d hd => by cases hd; exact rfl⟩
              · intro x u hbu hd
                have h14 : x 14 = .bool true := hd 2 (by decide)
                refine wpOp_step rfl fun K hK => ?_
                simp only [h14] at hK ⊢
                go_simp
                exact hK _ _ ⟨_, rfl, Below.refl _ _, fun d hd => by cases hd; exact rfl⟩
              · intro x u hbu hd
                have h15 : x 15 = .bool true := hd 3 (by decide)
                obtain ⟨z0, z1, z2, z3, z4, z5, z6, z7, z8⟩ := (hB.on hbu).cf
                refine wpOp_step rfl fun K hK => ?_
                simp only [h15] at hK ⊢
                go_simp
                exact hK _ _ ⟨_, rfl, Below.refl _ _, fun d hd => by cases hd; exact rfl⟩
              · intro x u hbu hd
                have h15 : x 15 = .bool true := hd 3 (by decide)
                refine wpOp_step rfl fun K hK => ?_
                simp only [h15] at hK ⊢
                go_simp
                exact hK _ _ ⟨_, rfl, Below.refl _ _, fun d hd => by cases hd; exact rfl⟩
              · intro x u hbu hd
                have h16 : x 16 = .agg #[.int .i64 c.N, .slice c.pA c.pn c.pc, .slice c.sA c.sn c.sc, .int .i64 c.L, .slice c.bA c.bn c.bc, .slice c.tA c.tn c.tc, .int .i64 c.M, .int .i64 c.G, .int .i64 c.F] := hd 4 (by decide)
                have h17 : x 17 = .int .i64 (i : Int) := hd 5 (by decide)
                have h15 : x 15 = .bool true := hd 3 (by decide)
                refine wpOp_step rfl fun K hK => ?_
                simp only [h16, h17, h15] at hK ⊢
                go_simp
                with_reducible refine (refPair_is c i p HP.out u (HC.out.on (below_then hb hbu))).mono ?_
                rintro e u' ⟨rfl, hb'⟩
                exact hK _ _ ⟨_, rfl, hb', fun d hd => by cases hd; exact rfl⟩
              · intro x u hbu hd
                have h18 : x 18 = .int .i64 p := hd 6 (by decide)
                have h15 : x 15 = .bool true := hd 3 (by decide)
                refine wpOp_step rfl fun K hK => ?_
                simp only [h18, h15] at hK ⊢
                go_simp
                exact hK _ _ ⟨_, rfl, Below.refl _ _, fun d hd => by cases hd; exact rfl⟩
              · intro x u hbu hd
                have h15 : x 15 = .bool true := hd 3 (by decide)
                have h19 : x 19 = .bool true := hd 7 (by decide)
                refine wpOp_step rfl fun K hK => ?_
                simp only [h15, h19] at hK ⊢
                go_simp
                exact hK _ _ ⟨_, rfl, Below.refl _ _, fun d hd => by cases hd; exact rfl⟩
              · intro x u hbu hd
                have h20 : x 20 = .bool true := hd 8 (by decide)
                refine wpOp_step rfl fun K hK => ?_
                simp only [h20] at hK ⊢
                go_simp
                exact hK _ _ ⟨_, rfl, Below.refl _ _, fun d hd => by cases hd; exact rfl⟩
              · intro x u hbu hd
                have h21 : x 21 = .bool true := hd 9 (by decide)
                obtain ⟨z0, z1, z2, z3, z4, z5, z6, z7, z8⟩ := (hB.on hbu).cf
                refine wpOp_step rfl fun K hK => ?_
                simp only [h21] at hK ⊢
                go_simp
                exact hK _ _ ⟨_, rfl, Below.refl _ _, fun d hd => by cases hd; exact rfl⟩
              · intro x u hbu hd
                have h21 : x 21 = .bool true := hd 9 (by decide)
                refine wpOp_step rfl fun K hK => ?_
                simp only [h21] at hK ⊢
                go_simp
                exact hK _ _ ⟨_, rfl, Below.refl _ _, fun d hd => by cases hd; exact rfl⟩
              · intro x u hbu hd
                have h22 : x 22 = .agg #[.int .i64 c.N, .slice c.pA c.pn c.pc, .slice c.sA c.sn c.sc, .int .i64 c.L, .slice c.bA c.bn c.bc, .slice c.tA c.tn c.tc, .int .i64 c.M, .int .i64 c.G, .int .i64 c.F] := hd 10 (by decide)
                have h23 : x 23 = .int .i64 (i : Int) := hd 11 (by decide)
                have h21 : x 21 = .bool true := hd 9 (by decide)
                refine wpOp_step rfl fun K hK => ?_
                simp only [h22, h23, h21] at hK ⊢
                go_simp
                with_reducible refine (refPair_is c i p HP.out u (HC.out.on (below_then hb hbu))).mono ?_
                rintro e u' ⟨rfl, hb'⟩
                exact hK _ _ ⟨_, rfl, hb', fun d hd => by cases hd; exact rfl⟩
              · intro x u hbu hd
                have h21 : x 21 = .bool true := hd 9 (by decide)
                obtain ⟨z0, z1, z2, z3, z4, z5, z6, z7, z8⟩ := (hB.on hbu).cf
                refine wpOp_step rfl fun K hK => ?_
                simp only [h21] at hK ⊢
                go_simp
                exact hK _ _ ⟨_, rfl, Below.refl _ _, fun d hd => by cases hd; exact rfl⟩
              · intro x u hbu hd
                have h21 : x 21 = .bool true := hd 9 (by decide)
                refine wpOp_step rfl fun K hK => ?_
                simp only [h21] at hK ⊢
                go_simp
                exact hK _ _ ⟨_, rfl, Below.refl _ _, fun d hd => by cases hd; exact rfl⟩
              · intro x u hbu hd
                have h25 : x 25 = .agg #[.int .i64 c.N, .slice c.pA c.pn c.pc, .slice c.sA c.sn c.sc, .int .i64 c.L, .slice c.bA c.bn c.bc, .slice c.tA c.tn c.tc, .int .i64 c.M, .int .i64 c.G, .int .i64 c.F] := hd 13 (by decide)
                have h26 : x 26 = .int .i64 nd := hd 14 (by decide)
                have h21 : x 21 = .bool true := hd 9 (by decide)
                refine wpOp_step rfl fun K hK => ?_
                simp only [h25, h26, h21] at hK ⊢
                go_simp
                with_reducible refine (refPair_is c nd px HX.out u (HC.out.on (below_then hb hbu))).mono ?_
                rintro e u' ⟨rfl, hb'⟩
                exact hK _ _ ⟨_, rfl, hb', fun d hd => by cases hd; exact rfl⟩
              · intro x u hbu hd
                have h24 : x 24 = .int .i64 p := hd 12 (by decide)
                have h27 : x 27 = .int .i64 px := hd 15 (by decide)
                have h21 : x 21 = .bool true := hd 9 (by decide)
                refine wpOp_step rfl fun K hK => ?_
                simp only [h24, h27, h21] at hK ⊢
                go_simp
                exact hK _ _ ⟨_, rfl, Below.refl _ _, fun d hd => by cases hd; exact rfl⟩
              · intro x u hbu hd
                have h21 : x 21 = .bool true := hd 9 (by decide)
                have h28 : x 28 = .bool false := hd 16 (by decide)
                refine wpOp_step rfl fun K hK => ?_
                simp only [h21, h28] at hK ⊢
                go_simp
                exact hK _ _ ⟨_, rfl, Below.refl _ _, fun d hd => by cases hd; exact rfl⟩
            · intro x' U hU hd
              have h29 : x' 29 = .bool false := hd 17 (by decide)
              simp only [Reg.frame, Reg.over, Nat.reduceAdd, Nat.reduceLeDiff, decide_true, decide_false, Bool.and_true, Bool.and_false, if_true, Bool.false_eq_true, if_false, h29]
              go_wp2_with fail
              go_roundw
              case rel => exact ⟨i + 1, by omega, by go_num, Lib.hid (HN.out HNO.out), hB.on hU, below_then hb hU⟩
              case measure => simp [intOf]; omega
    · have HRES := Lib.hid (show r = -1 from HR.out.symm.trans (part_miss ⟨hn1, hn2⟩ HOK.out.okP fun j hj => ht.out j (by omega)))
      go_wp2_with fail
      go_ret
      exact ⟨ret_int HRES.out.symm, hb⟩
end Go.Proofs.YtibniadebbgjcaaDoor
