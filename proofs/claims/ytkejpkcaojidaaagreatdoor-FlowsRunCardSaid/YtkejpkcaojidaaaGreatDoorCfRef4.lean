/-
  The contracts of the document's answers Round, Owner, First, Pair, Partner, Next: what the mathematics says; nothing that was there has turned. Conditions: the config's reading; of Partner and Next: the config may be.
-/
import Derived.Test.YtkejpkcaojidaaaGreatDoorLawNet
import Derived.Test.YtkejpkcaojidaaaGreatDoorCfRef3
import Derived.Test.YtkejpkcaojidaaaGreatDoorRgLaid
import Derived.Test.YtkejpkcaojidaaaGreatDoorReg2
namespace Go.Proofs.YtkejpkcaojidaaaGreatDoor
set_option linter.unusedVariables false
set_option linter.unusedSimpArgs false
open Go.RowKit Rg

set_option maxRecDepth 100000 in
theorem refPair_any (c : Cf) (x : Int) (w : World) (hc : CfIn w c) :
    Calls Tryz.prog 26 #[.agg #[.int .i64 c.N, .slice c.pA c.pn c.pc, .slice c.sA c.sn c.sc, .int .i64 c.L, .slice c.bA c.bn c.bc, .slice c.tA c.tn c.tc, .int .i64 c.M, .int .i64 c.G, .int .i64 c.F], .int .i64 x] w fun e w' => e = .returned (.int .i64 (pairM c.N c.P x)) ∧ Below w.heap.size w w' := by
  have hP := (hc.al (.cells #[.int .i64 c.N, .slice c.pA c.pn c.pc, .slice c.sA c.sn c.sc, .int .i64 c.L, .slice c.bA c.bn c.bc, .slice c.tA c.tn c.tc, .int .i64 c.M, .int .i64 c.G, .int .i64 c.F] 25)).p
  have HL := Lib.hid hc.p.len
  have hfew := hc.few.1
  clear hc
  go_enter Tryz.func26, Tryz.ntmps26
  go_wp2_with fail
  go_loop [5] (fun i => ∃ k : Nat, k ≤ c.pn ∧ i = .int .i64 k ∧ Hid (∀ j, j < k → hitB c.N x (c.P.getD j 0) = false)) (fun i => c.pn - (intOf i).toNat)
  case atStart => exact ⟨0, Nat.zero_le _, rfl, Lib.hid fun j hj => absurd hj (by omega)⟩
  case round =>
    obtain ⟨k, hk, rfl, ht⟩ := hrel
    by_cases hlt : k < c.pn
    · obtain ⟨b, off, hA, hbl, hcc⟩ := hP.at_ (by omega)
      have hcell := hcc k hlt
      have hix := fun W => idxNums (n := c.pn) c.pc hA hlt W
      have HH := Lib.hid (pair_hit (N := c.N) (P := c.P) (x := x) k (by have := HL.out; omega) ht.out)
      have HN := Lib.hid (show hitB c.N x (c.P.getD k 0) = false → ∀ j, j < k + 1 → hitB c.N x (c.P.getD j 0) = false from fun h j hj => by
        rcases Nat.lt_succ_iff_lt_or_eq.1 hj with q | q
        · exact ht.out j q
        · rw [q]; exact h)
      obtain ⟨a, ha⟩ : ∃ a, a = c.P.getD k 0 := ⟨_, rfl⟩
      rw [← ha] at hcell HH HN
      clear hcc hA ha
      by_cases h1 : x = a
      · subst h1
        have HX := Lib.hid (HH.out (by simp [hitB]))
        go_wp2_with fail
        go_ret
        exact ⟨ret_int HX.out.symm, below_al (Below.refl _ _) _⟩
      · have e1 := beq_eq_false_iff_ne.2 h1
        by_cases h2 : x = stepM c.N 0 a 1
        · have HX := Lib.hid (HH.out (by simp [hitB, ← h2]))
          have HST := Lib.hid h2.symm
          clear h1 h2
          go_wp2_with (go_at_call 56; (with_reducible refine (refStep_any c.N 0 a 1 _ (by omega) (by omega)).mono ?_); rintro e w2 ⟨rfl, rfl⟩; rw [HST.out])
          go_ret
          exact ⟨ret_int HX.out.symm, below_al (Below.refl _ _) _⟩
        · have HX := Lib.hid (HN.out (by simp [hitB, h1, h2]))
          obtain ⟨y, hy⟩ : ∃ y, y = stepM c.N 0 a 1 := ⟨_, rfl⟩
          rw [← hy] at h2
          have HST := Lib.hid hy.symm
          have e2 := beq_eq_false_iff_ne.2 h2
          clear h1 h2 hy
          go_wp2_with (go_at_call 56; (with_reducible refine (refStep_any c.N 0 a 1 _ (by omega) (by omega)).mono ?_); rintro e w2 ⟨rfl, rfl⟩; rw [HST.out])
          go_round
          case rel => exact ⟨k + 1, by omega, by go_num, HX⟩
          case measure => simp [intOf]; omega
    · have HX := Lib.hid (pair_none (N := c.N) (P := c.P) (x := x) fun j hj => ht.out j (by have := HL.out; omega))
      go_wp2_with fail
      go_ret
      exact ⟨ret_int HX.out.symm, below_al (Below.refl _ _) _⟩
theorem refPair_is (c : Cf) (x p : Int) (hp : pairM c.N c.P x = p) (w : World) (hc : CfIn w c) :
    Calls Tryz.prog 26 #[.agg #[.int .i64 c.N, .slice c.pA c.pn c.pc, .slice c.sA c.sn c.sc, .int .i64 c.L, .slice c.bA c.bn c.bc, .slice c.tA c.tn c.tc, .int .i64 c.M, .int .i64 c.G, .int .i64 c.F], .int .i64 x] w fun e w' => e = .returned (.int .i64 p) ∧ Below w.heap.size w w' := by
  subst hp; exact refPair_any c x w hc

end Go.Proofs.YtkejpkcaojidaaaGreatDoor

