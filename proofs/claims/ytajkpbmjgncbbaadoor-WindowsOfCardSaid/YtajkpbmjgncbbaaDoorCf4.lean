/-
  The contracts of package configs' rules on slots and on stations. Conditions: the config's reading.
-/
import Derived.Test.YtajkpbmjgncbbaaDoorCf2
namespace Go.Proofs.YtajkpbmjgncbbaaDoor
open Go.RowKit Rg

theorem okS_first {n : Nat} {S : List Int} (k : Nat) (hk : k < S.length) (h : plB n (S.getD k 0) = false) : slotsE n S = 1 := by
  rw [slotsE, if_neg]
  intro q
  have := q.1 (S.getD k 0) (by rw [getD_at S k hk]; exact List.getElem_mem _)
  simp only [plB, decide_eq_false_iff_not] at h
  omega
theorem okS_second {n : Nat} {S : List Int} (k : Nat) (hk : k < n) (h : decide ((k : Int) ∈ S) = false) : slotsE n S = 1 := by
  rw [slotsE, if_neg]
  intro q
  simp at h
  exact h (q.2 k hk)
theorem okS_all {n : Nat} {S : List Int} (h1 : ∀ j, j < S.length → plB n (S.getD j 0) = true) (h2 : ∀ p, p < n → (p : Int) ∈ S) : slotsE n S = 0 := by
  rw [slotsE_ok]
  refine ⟨fun s hs => ?_, h2⟩
  obtain ⟨j, hj, rfl⟩ := List.getElem_of_mem hs
  have := h1 j hj
  rw [getD_at S j hj] at this
  simpa [plB] using this

set_option maxRecDepth 100000 in
theorem rule5_any (c : Cf) (w : World) (hc : CfIn w c) :
    Calls Tryd.prog 53 #[.agg #[.int .i64 c.N, .slice c.pA c.pn c.pc, .slice c.sA c.sn c.sc, .int .i64 c.L, .slice c.bA c.bn c.bc, .slice c.tA c.tn c.tc, .int .i64 c.M, .int .i64 c.G, .int .i64 c.F]] w fun e w' => e = .returned (.int .i64 (slotsE c.pn c.S)) ∧ Below w.heap.size w w' := by
  have HL := Lib.hid hc.s.len
  have hfs := hc.few.2.1
  have hfp := hc.few.1
  have hS := (hc.al (.cells #[.int .i64 c.N, .slice c.pA c.pn c.pc, .slice c.sA c.sn c.sc, .int .i64 c.L, .slice c.bA c.bn c.bc, .slice c.tA c.tn c.tc, .int .i64 c.M, .int .i64 c.G, .int .i64 c.F] 25)).s
  clear hc
  go_enter Tryd.func53, Tryd.ntmps53
  go_wp2_with fail
  go_loop [9] (fun i => ∃ k : Nat, k ≤ c.sn ∧ i = .int .i64 k ∧ Hid (∀ j, j < k → plB c.pn (c.S.getD j 0) = true)) (fun i => c.sn - (intOf i).toNat)
  case atStart => exact ⟨0, Nat.zero_le _, rfl, Lib.hid fun j hj => absurd hj (by omega)⟩
  case round =>
    obtain ⟨k, hk, rfl, ht⟩ := hrel
    by_cases hlt : k < c.sn
    · obtain ⟨b, off, hA, hbl, hcc⟩ := hS.at_ (by omega)
      have hcell := hcc k hlt
      clear hcc
      have hix := fun W => idxNums (n := c.sn) c.sc hA hlt W
      have HF := Lib.hid (okS_first (n := c.pn) (S := c.S) k (by have := HL.out; omega))
      have HN := Lib.hid (show plB c.pn (c.S.getD k 0) = true → ∀ j, j < k + 1 → plB c.pn (c.S.getD j 0) = true from fun h j hj => by
        rcases Nat.lt_succ_iff_lt_or_eq.1 hj with q | q
        · exact ht.out j q
        · rw [q]; exact h)
      obtain ⟨a, ha⟩ : ∃ a, a = c.S.getD k 0 := ⟨_, rfl⟩
      rw [← ha] at hcell HF HN
      clear ha hA
      by_cases hp : plB c.pn a = true
      · have HP := Lib.hid hp
        clear hp
        go_wp2_with (go_at_call 62; (with_reducible refine (isPlace_b _ _ _ _ true HP.out _).mono ?_); rintro e w1 ⟨rfl, rfl⟩)
        go_round
        case rel => exact ⟨k + 1, by omega, by go_num, Lib.hid (HN.out HP.out)⟩
        case measure => simp [intOf]; omega
      · have HP := Lib.hid (bfalse hp)
        clear hp
        go_wp2_with (go_at_call 62; (with_reducible refine (isPlace_b _ _ _ _ false HP.out _).mono ?_); rintro e w1 ⟨rfl, rfl⟩)
        go_ret
        exact ⟨ret_int (HF.out HP.out).symm, below_al (Below.refl _ _) _⟩
    · have H1 := Lib.hid (show ∀ j, j < c.S.length → plB c.pn (c.S.getD j 0) = true from fun j hj => ht.out j (by have := HL.out; omega))
      clear ht
      go_wp2_with fail
      go_loop [22] (fun i => ∃ p : Nat, p ≤ c.pn ∧ i = .int .i64 p ∧ Hid (∀ j, j < p → (j : Int) ∈ c.S)) (fun i => c.pn - (intOf i).toNat)
      case atStart => exact ⟨0, Nat.zero_le _, rfl, Lib.hid fun j hj => absurd hj (by omega)⟩
      case round =>
        obtain ⟨p, hpk, rfl, ht⟩ := hrel
        by_cases hlt2 : p < c.pn
        · have HF := Lib.hid (okS_second (n := c.pn) (S := c.S) p hlt2)
          have HN := Lib.hid (show (p : Int) ∈ c.S → ∀ j : Nat, j < p + 1 → (j : Int) ∈ c.S from fun h j hj => by
            rcases Nat.lt_succ_iff_lt_or_eq.1 hj with q | q
            · exact ht.out j q
            · rw [q]; exact h)
          by_cases hp : decide ((p : Int) ∈ c.S) = true
          · have HP := Lib.hid hp
            clear hp
            go_wp2_with (go_at_call 63; (with_reducible refine (contains_any _ _ _ c.S _ true HP.out _ hS hfs).mono ?_); rintro e w1 ⟨rfl, rfl⟩)
            go_round
            case rel => exact ⟨p + 1, by omega, by go_num, Lib.hid (HN.out (of_decide_eq_true HP.out))⟩
            case measure => simp [intOf]; omega
          · have HP := Lib.hid (bfalse hp)
            clear hp
            go_wp2_with (go_at_call 63; (with_reducible refine (contains_any _ _ _ c.S _ false HP.out _ hS hfs).mono ?_); rintro e w1 ⟨rfl, rfl⟩)
            go_ret
            exact ⟨ret_int (HF.out HP.out).symm, below_al (Below.refl _ _) _⟩
        · have HX := Lib.hid (okS_all (n := c.pn) (S := c.S) H1.out fun q hq => ht.out q (by omega))
          go_wp2_with fail
          go_ret
          exact ⟨ret_int HX.out.symm, below_al (Below.refl _ _) _⟩

set_option maxRecDepth 100000 in
theorem rule9_any (c : Cf) (w : World) (hc : CfIn w c) :
    Calls Tryd.prog 58 #[.agg #[.int .i64 c.N, .slice c.pA c.pn c.pc, .slice c.sA c.sn c.sc, .int .i64 c.L, .slice c.bA c.bn c.bc, .slice c.tA c.tn c.tc, .int .i64 c.M, .int .i64 c.G, .int .i64 c.F]] w fun e w' => e = .returned (.int .i64 (stL c.N c.T)) ∧ Below w.heap.size w w' := by
  have HL := Lib.hid hc.t.len
  have hft := hc.few.2.2.2
  have HC := Lib.hid hc
  clear hc
  go_enter Tryd.func58, Tryd.ntmps58
  go_wp2_with fail
  go_loopw [9] (fun i wr => ∃ k : Nat, k ≤ c.tn ∧ i = .int .i64 k ∧ Hid (stL c.N c.T = stL c.N (c.T.drop k)) ∧ Blk wr w.heap.size 25 #[.int .i64 c.N, .slice c.pA c.pn c.pc, .slice c.sA c.sn c.sc, .int .i64 c.L, .slice c.bA c.bn c.bc, .slice c.tA c.tn c.tc, .int .i64 c.M, .int .i64 c.G, .int .i64 c.F] ∧ Below w.heap.size w wr) (fun i _ => c.tn - (intOf i).toNat)
  case atStart => exact ⟨0, Nat.zero_le _, rfl, Lib.hid rfl, Blk.new w _ _, below_al (Below.refl _ _) _⟩
  case round =>
    obtain ⟨k, hk, rfl, ht, hB1, hb⟩ := hrel
    have hz := hb.size
    by_cases hlt : k < c.tn
    · obtain ⟨b, off, hA, hbl, hcc⟩ := (HC.out.on hb).t.at_ (by omega)
      obtain ⟨q0, q1, q2⟩ := hcc k hlt
      clear hcc
      have hix := fun W => idxSts (n := c.tn) c.tc hA hlt W
      have HD := Lib.hid (stL_drop c.N c.T k (by have := HL.out; omega))
      have HS := Lib.hid (stL_stop c.N c.T k (by have := HL.out; omega))
      obtain ⟨⟨x, y, z⟩, ha⟩ : ∃ s, s = c.T.getD k (0, 0, 0) := ⟨_, rfl⟩
      rw [← ha] at q0 q1 q2 HD HS
      clear ha hA
      simp only at q0 q1 q2
      obtain ⟨k0, k1, k2, k3, k4, k5, k6, k7, k8⟩ := hB1.cf
      have hbk : w.heap.size < wr.heap.size := hB1.lt
      by_cases hx0 : x < 0
      · have HE := Lib.hid (show stE c.N (x, y, z) = 1 by rw [stE, if_pos (by left; exact hx0)])
        go_wp2_with fail
        go_ret
        exact ⟨ret_int (by rw [ht.out, HS.out (by rw [HE.out]; decide), HE.out]), hb.alloc hz _⟩
      · by_cases hxN : c.N ≤ x
        · have HE := Lib.hid (show stE c.N (x, y, z) = 1 by rw [stE, if_pos (by right; exact hxN)])
          have hx0' : 0 ≤ x := by omega
          clear hx0
          go_wp2_with fail
          go_ret
          exact ⟨ret_int (by rw [ht.out, HS.out (by rw [HE.out]; decide), HE.out]), hb.alloc hz _⟩
        · have HE := Lib.hid (show stE c.N (x, y, z) = wit 1 100 z by rw [stE, if_neg (by simp only; omega)])
          have hx0' : 0 ≤ x := by omega
          have hxN' : x < c.N := by omega
          clear hx0 hxN
          by_cases hw0 : wit 1 100 z = 0
          · have HW := Lib.hid hw0
            clear hw0
            go_wp2_with (go_at_call 49; (with_reducible refine (within1 1 100 z _ _ _ (by simp)).mono ?_); rintro e w1 ⟨rfl, rfl⟩; rw [HW.out])
            go_roundw
            case rel => exact ⟨k + 1, by omega, by go_num, Lib.hid (ht.out.trans (HD.out (HE.out.trans HW.out))), (hB1.alloc _).alloc _, (hb.alloc hz _).alloc (by simp; omega) _⟩
            case measure => simp [intOf]; omega
          · have HW := Lib.hid hw0
            have hwb := beq_eq_false_iff_ne.2 hw0
            obtain ⟨v, hv⟩ : ∃ v, v = wit 1 100 z := ⟨_, rfl⟩
            rw [← hv] at hwb
            have HV := Lib.hid hv
            clear hw0 hv
            go_wp2_with (go_at_call 49; (with_reducible refine (within1 1 100 z _ _ _ (by simp)).mono ?_); rintro e w1 ⟨rfl, rfl⟩; rw [← HV.out])
            go_ret
            exact ⟨ret_int (by rw [ht.out, HS.out (by rw [HE.out]; exact HW.out), HE.out, HV.out]), (hb.alloc hz _).alloc (by simp; omega) _⟩
    · have HX := Lib.hid (show stL c.N c.T = 0 by rw [ht.out, List.drop_of_length_le (by have := HL.out; omega)]; rfl)
      go_wp2_with fail
      go_ret
      exact ⟨ret_int HX.out.symm, hb⟩
end Go.Proofs.YtajkpbmjgncbbaaDoor

