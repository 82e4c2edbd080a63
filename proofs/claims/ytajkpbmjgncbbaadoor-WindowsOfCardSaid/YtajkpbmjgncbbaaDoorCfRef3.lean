/-
  The contract of the document's answer New: what is wrong with a config first; nothing that was there has turned. Conditions: the config's reading.
-/
import Derived.Test.YtajkpbmjgncbbaaDoorCfRef2
namespace Go.Proofs.YtajkpbmjgncbbaaDoor
open Go.RowKit Rg

theorem errs_drop {c : Cf} {k : Nat} {x : Int} (h : newE c = firstE ((errs c).drop k)) (hk : k < 10) (hx : (errs c).getD k 0 = x) (h0 : x = 0) : newE c = firstE ((errs c).drop (k + 1)) :=
  h.trans (firstE_drop (errs c) k hk (hx.trans h0))
theorem errs_stop {c : Cf} {k : Nat} {x : Int} (h : newE c = firstE ((errs c).drop k)) (hk : k < 10) (hx : (errs c).getD k 0 = x) (h0 : x ≠ 0) : newE c = x :=
  (h.trans (firstE_stop (errs c) k hk (by rw [hx]; exact h0))).trans hx
theorem refWithin_is (x lo hi v : Int) (hv : wit lo hi x = v) (w : World) :
    Calls Tryd.prog 35 #[.int .i64 x, .int .i64 lo, .int .i64 hi] w fun e w' => e = .returned (.int .i64 v) ∧ w = w' := by
  subst hv; exact refWithin_any x lo hi w
theorem refPairs_is (c : Cf) (b : Bool) (hb : decide (okP c.N c.P) = b) (w : World) (hc : CfIn w c) (h1 : 4 ≤ c.N) (h2 : c.N ≤ 16) :
    Calls Tryd.prog 36 #[.agg #[.int .i64 c.N, .slice c.pA c.pn c.pc, .slice c.sA c.sn c.sc, .int .i64 c.L, .slice c.bA c.bn c.bc, .slice c.tA c.tn c.tc, .int .i64 c.M, .int .i64 c.G, .int .i64 c.F]] w fun e w' => e = .returned (.bool b) ∧ Below w.heap.size w w' := by
  subst hb; exact refPairs_any c w hc h1 h2
theorem refSlots_is (c : Cf) (b : Bool) (hb : decide (okS c.pn c.S) = b) (w : World) (hc : CfIn w c) :
    Calls Tryd.prog 37 #[.agg #[.int .i64 c.N, .slice c.pA c.pn c.pc, .slice c.sA c.sn c.sc, .int .i64 c.L, .slice c.bA c.bn c.bc, .slice c.tA c.tn c.tc, .int .i64 c.M, .int .i64 c.G, .int .i64 c.F]] w fun e w' => e = .returned (.bool b) ∧ Below w.heap.size w w' := by
  subst hb; exact refSlots_any c w hc

set_option maxRecDepth 100000 in
set_option maxHeartbeats 4000000 in
theorem refNew_any (c : Cf) (w : World) (hc : CfIn w c) :
    Calls Tryd.prog 23 #[.agg #[.int .i64 c.N, .slice c.pA c.pn c.pc, .slice c.sA c.sn c.sc, .int .i64 c.L, .slice c.bA c.bn c.bc, .slice c.tA c.tn c.tc, .int .i64 c.M, .int .i64 c.G, .int .i64 c.F]] w fun e w' => e = .returned (.int .i64 (newE c)) ∧ Below w.heap.size w w' := by
  have HE0 := Lib.hid (show newE c = firstE ((errs c).drop 0) from rfl)
  obtain ⟨f1, f2, f3, f4⟩ := hc.few
  have HC := Lib.hid hc
  have HLB := Lib.hid hc.b.len
  have HLT := Lib.hid hc.t.len
  clear hc
  have hB0 := Blk.new w 25 #[.int .i64 c.N, .slice c.pA c.pn c.pc, .slice c.sA c.sn c.sc, .int .i64 c.L, .slice c.bA c.bn c.bc, .slice c.tA c.tn c.tc, .int .i64 c.M, .int .i64 c.G, .int .i64 c.F]
  have hb0 := below_al (Below.refl w.heap.size w) (.cells #[.int .i64 c.N, .slice c.pA c.pn c.pc, .slice c.sA c.sn c.sc, .int .i64 c.L, .slice c.bA c.bn c.bc, .slice c.tA c.tn c.tc, .int .i64 c.M, .int .i64 c.G, .int .i64 c.F] 25)
  obtain ⟨w0, hw0⟩ : ∃ w0, w0 = w.alloc (.cells #[.int .i64 c.N, .slice c.pA c.pn c.pc, .slice c.sA c.sn c.sc, .int .i64 c.L, .slice c.bA c.bn c.bc, .slice c.tA c.tn c.tc, .int .i64 c.M, .int .i64 c.G, .int .i64 c.F] 25) := ⟨_, rfl⟩
  go_enter Tryd.func23, Tryd.ntmps23
  go_wp2_with fail
  rw [← hw0] at hB0 hb0 ⊢
  clear hw0
  obtain ⟨k0, k1, k2, k3, k4, k5, k6, k7, k8⟩ := hB0.cf
  obtain ⟨v, hv⟩ : ∃ v, v = wit 4 16 c.N := ⟨_, rfl⟩
  have HV := Lib.hid hv.symm
  have HG := Lib.hid (show (errs c).getD 0 0 = v from hv.symm)
  clear hv
  by_cases hv0 : v = 0
  · subst hv0
    have HE1 := Lib.hid (errs_drop HE0.out (by decide) HG.out rfl)
    have HK0 := Lib.hid HV.out
    clear HG HE0
    go_wp2_with (go_at_call 35; (with_reducible refine (refWithin_is _ _ _ 0 HV.out _).mono ?_); rintro e w' ⟨rfl, rfl⟩)
    clear HV
    obtain ⟨hn1, hn2⟩ := wit_ok.1 HK0.out
    have hmx : max (3 * c.N + 1) (c.N + 116) = c.N + 116 := by omega
    obtain ⟨v, hv⟩ : ∃ v, v = wit 2 8 (c.pn : Int) := ⟨_, rfl⟩
    have HV := Lib.hid hv.symm
    have HG := Lib.hid (show (errs c).getD 1 0 = v from hv.symm)
    clear hv
    by_cases hv0 : v = 0
    · subst hv0
      have HE2 := Lib.hid (errs_drop HE1.out (by decide) HG.out rfl)
      have HK1 := Lib.hid HV.out
      clear HG HE1
      go_wp2_with (go_at_call 35; (with_reducible refine (refWithin_is _ _ _ 0 HV.out _).mono ?_); rintro e w' ⟨rfl, rfl⟩)
      clear HV
      by_cases hq : okP c.N c.P
      · have HE3 := Lib.hid (errs_drop HE2.out (by decide) rfl (pairsE_ok.2 hq))
        have HQ := Lib.hid (decide_eq_true hq)
        clear hq HE2
        go_wp2_with (go_at_call 36; (with_reducible refine (refPairs_is c true HQ.out w0 (HC.out.on hb0) hn1 hn2).mono ?_); rintro e w2 ⟨rfl, a2⟩; have hb2 := below_then hb0 a2; have hB2 := hB0.on a2; clear k0 k1 k2 k3 k4 k5 k6 k7 k8; obtain ⟨k0, k1, k2, k3, k4, k5, k6, k7, k8⟩ := hB2.cf)
        clear HQ
        obtain ⟨v, hv⟩ : ∃ v, v = wit 1 16 (c.sn : Int) := ⟨_, rfl⟩
        have HV := Lib.hid hv.symm
        have HG := Lib.hid (show (errs c).getD 3 0 = v from hv.symm)
        clear hv
        by_cases hv0 : v = 0
        · subst hv0
          have HE4 := Lib.hid (errs_drop HE3.out (by decide) HG.out rfl)
          have HK3 := Lib.hid HV.out
          clear HG HE3
          go_wp2_with (go_at_call 35; (with_reducible refine (refWithin_is _ _ _ 0 HV.out _).mono ?_); rintro e w' ⟨rfl, rfl⟩)
          clear HV
          by_cases hq : okS c.pn c.S
          · have HE5 := Lib.hid (errs_drop HE4.out (by decide) rfl (slotsE_ok.2 hq))
            have HQ := Lib.hid (decide_eq_true hq)
            clear hq HE4
            go_wp2_with (go_at_call 37; (with_reducible refine (refSlots_is c true HQ.out w2 (HC.out.on hb2)).mono ?_); rintro e w4 ⟨rfl, a4⟩; have hb4 := below_then hb2 a4; have hB4 := hB2.on a4; clear k0 k1 k2 k3 k4 k5 k6 k7 k8; obtain ⟨k0, k1, k2, k3, k4, k5, k6, k7, k8⟩ := hB4.cf)
            clear HQ
            obtain ⟨v, hv⟩ : ∃ v, v = wit (c.N + 116) 4096 c.L := ⟨_, rfl⟩
            have HV := Lib.hid hv.symm
            have HG := Lib.hid (show (errs c).getD 5 0 = v from hv.symm)
            clear hv
            by_cases hv0 : v = 0
            · subst hv0
              have HE6 := Lib.hid (errs_drop HE5.out (by decide) HG.out rfl)
              clear HG HE5
              by_cases hbn : (c.bn : Int) = c.N
              · have HBE := Lib.hid (show bootsE c.N c.bn c.B = witL 0 4096 c.B by rw [bootsE, if_pos hbn])
                have hbb : ((c.bn : Int) != c.N) = false := by simp [hbn]
                clear hbn
                go_wp2_with (go_at_call 35; (with_reducible refine (refWithin_is _ _ _ 0 HV.out _).mono ?_); rintro e w' ⟨rfl, rfl⟩)
                clear HV hbb hmx
                go_loop [4] (fun i => ∃ k : Nat, k ≤ c.bn ∧ i = .int .i64 k ∧ Hid (witL 0 4096 c.B = witL 0 4096 (c.B.drop k))) (fun i => c.bn - (intOf i).toNat)
                case atStart => exact ⟨0, Nat.zero_le _, rfl, Lib.hid rfl⟩
                case round =>
                  obtain ⟨k, hk, rfl, ht⟩ := hrel
                  by_cases hlt : k < c.bn
                  · obtain ⟨b, off, hA, hbl, hcc⟩ := (HC.out.on hb4).b.at_ (by omega)
                    have hcell := hcc k hlt
                    have hix := fun W => idxNums (n := c.bn) c.bc hA hlt W
                    have HS := Lib.hid (witL_drop 0 4096 c.B k (by have := HLB.out; omega))
                    have HO := Lib.hid (witL_stop 0 4096 c.B k (by have := HLB.out; omega))
                    obtain ⟨y, hy⟩ : ∃ y, y = c.B.getD k 0 := ⟨_, rfl⟩
                    rw [← hy] at hcell HS HO
                    obtain ⟨v, hv⟩ : ∃ v, v = wit 0 4096 y := ⟨_, rfl⟩
                    rw [← hv] at HS HO
                    have HV := Lib.hid hv.symm
                    clear hy hcc hA hv
                    by_cases hv0 : v = 0
                    · subst hv0
                      have HN := Lib.hid (ht.out.trans (HS.out rfl))
                      clear HS HO
                      go_wp2_with (go_at_call 35; (with_reducible refine (refWithin_is _ _ _ 0 HV.out _).mono ?_); rintro e w' ⟨rfl, rfl⟩)
                      go_round
                      case rel => exact ⟨k + 1, by omega, by go_num, HN⟩
                      case measure => simp [intOf]; omega
                    · have HX := Lib.hid (errs_stop HE6.out (by decide) (HBE.out.trans (ht.out.trans (HO.out hv0))) hv0)
                      have hvb := beq_eq_false_iff_ne.2 hv0
                      clear hv0 HS HO
                      go_wp2_with (go_at_call 35; (with_reducible refine (refWithin_is _ _ _ v HV.out _).mono ?_); rintro e w' ⟨rfl, rfl⟩)
                      go_ret
                      exact ⟨ret_int HX.out.symm, hb4⟩
                  · have HE7 := Lib.hid (errs_drop HE6.out (by decide) (HBE.out.trans (ht.out.trans (by rw [List.drop_of_length_le (by have := HLB.out; omega)]; rfl))) rfl)
                    clear ht HE6 HBE
                    obtain ⟨v, hv⟩ : ∃ v, v = wit 0 8 (c.tn : Int) := ⟨_, rfl⟩
                    have HV := Lib.hid hv.symm
                    have HG := Lib.hid (show (errs c).getD 7 0 = v from hv.symm)
                    clear hv
                    by_cases hv0 : v = 0
                    · subst hv0
                      have HE8 := Lib.hid (errs_drop HE7.out (by decide) HG.out rfl)
                      have HK7 := Lib.hid HV.out
                      clear HG HE7
                      go_wp2_with (go_at_call 35; (with_reducible refine (refWithin_is _ _ _ 0 HV.out _).mono ?_); rintro e w' ⟨rfl, rfl⟩)
                      clear HV
                      clear k0 k1 k2 k3 k4 k5 k6 k7 k8
                      go_loopw [5] (fun i wr => ∃ k : Nat, k ≤ c.tn ∧ i = .int .i64 k ∧ Hid (stL c.N c.T = stL c.N (c.T.drop k)) ∧ Below w4.heap.size w4 wr) (fun i _ => c.tn - (intOf i).toNat)
                      case atStart => exact ⟨0, Nat.zero_le _, rfl, Lib.hid rfl, Below.refl _ _⟩
                      case round =>
                        obtain ⟨k, hk, rfl, ht, hb8⟩ := hrel
                        have hz := hb8.size
                        have hb9 := below_then hb4 hb8
                        obtain ⟨k0, k1, k2, k3, k4, k5, k6, k7, k8⟩ := (hB4.on hb8).cf
                        have hlt0 : w.heap.size < wr.heap.size := Nat.lt_of_lt_of_le hB4.lt hz
                        by_cases hlt : k < c.tn
                        · obtain ⟨b, off, hA, hbl, hcc⟩ := (HC.out.on hb9).t.at_ (by omega)
                          obtain ⟨q0, q1, q2⟩ := hcc k hlt
                          have hix := fun W => idxSts (n := c.tn) c.tc hA hlt W
                          have HD := Lib.hid (stL_drop c.N c.T k (by have := HLT.out; omega))
                          have HS := Lib.hid (stL_stop c.N c.T k (by have := HLT.out; omega))
                          obtain ⟨⟨x, y, z⟩, ha⟩ : ∃ s, s = c.T.getD k (0, 0, 0) := ⟨_, rfl⟩
                          rw [← ha] at q0 q1 q2 HD HS
                          clear ha hA hcc
                          simp only at q0 q1 q2
                          by_cases hx0 : x < 0
                          · have HX := Lib.hid (errs_stop (x := 1) HE8.out (by decide) (ht.out.trans ((HS.out (by rw [stE, if_pos (by left; exact hx0)]; decide)).trans (by rw [stE, if_pos (by left; exact hx0)]))) (by decide))
                            clear HS HD
                            go_wp2_with fail
                            go_ret
                            exact ⟨ret_int HX.out.symm, below_al hb9 _⟩
                          · by_cases hxN : c.N ≤ x
                            · have HX := Lib.hid (errs_stop (x := 1) HE8.out (by decide) (ht.out.trans ((HS.out (by rw [stE, if_pos (by right; exact hxN)]; decide)).trans (by rw [stE, if_pos (by right; exact hxN)]))) (by decide))
                              have hx0' : 0 ≤ x := by omega
                              clear HS HD hx0
                              go_wp2_with fail
                              go_ret
                              exact ⟨ret_int HX.out.symm, below_al hb9 _⟩
                            · have HST := Lib.hid (show stE c.N (x, y, z) = wit 1 100 z by rw [stE, if_neg (by simp only; omega)])
                              have hx0' : 0 ≤ x := by omega
                              have hxN' : x < c.N := by omega
                              obtain ⟨v, hv⟩ : ∃ v, v = wit 1 100 z := ⟨_, rfl⟩
                              rw [HST.out, ← hv] at HS HD
                              have HV := Lib.hid hv.symm
                              clear hv hx0 hxN HST
                              by_cases hv0 : v = 0
                              · subst hv0
                                have HN := Lib.hid (ht.out.trans (HD.out rfl))
                                clear HS HD
                                go_wp2_with (go_at_call 35; (with_reducible refine (refWithin_is _ _ _ 0 HV.out _).mono ?_); rintro e w' ⟨rfl, rfl⟩)
                                go_roundw
                                case rel => exact ⟨k + 1, by omega, by go_num, HN, hb8.alloc hz _⟩
                                case measure => simp [intOf]; omega
                              · have HX := Lib.hid (errs_stop HE8.out (by decide) (ht.out.trans (HS.out hv0)) hv0)
                                have hvb := beq_eq_false_iff_ne.2 hv0
                                clear hv0 HS HD
                                go_wp2_with (go_at_call 35; (with_reducible refine (refWithin_is _ _ _ v HV.out _).mono ?_); rintro e w' ⟨rfl, rfl⟩)
                                go_ret
                                exact ⟨ret_int HX.out.symm, below_al hb9 _⟩
                        · have HE9 := Lib.hid (errs_drop HE8.out (by decide) (ht.out.trans (by rw [List.drop_of_length_le (by have := HLT.out; omega)]; rfl)) rfl)
                          clear ht HE8
                          have hl3 := Lies.new wr 3 .i64 [c.M, c.G, c.F] 3 rfl #[.int .i64 c.M, .int .i64 c.G, .int .i64 c.F] rfl
                          go_wp2_with fail
                          go_loop [8] (fun i => ∃ j : Nat, j ≤ 3 ∧ i = .int .i64 j ∧ Hid (witL 1 100 [c.M, c.G, c.F] = witL 1 100 ([c.M, c.G, c.F].drop j))) (fun i => 3 - (intOf i).toNat)
                          case atStart => exact ⟨0, by omega, rfl, Lib.hid rfl⟩
                          case round =>
                            obtain ⟨j, hj, rfl, ht⟩ := hrel
                            by_cases hltj : j < 3
                            · obtain ⟨b, off, hA, hbl, hcc⟩ := hl3.at_ (by omega)
                              injection hA with hA
                              injection hA with hA1 hA2
                              subst hA1 hA2
                              have hcell := hcc j hltj
                              have hix := fun W => idxNums (n := 3) 3 (k := j) (b := wr.heap.size) (off := 0) rfl hltj W
                              simp only [Nat.zero_add] at hix hcell
                              have HS := Lib.hid (witL_drop 1 100 [c.M, c.G, c.F] j hltj)
                              have HO := Lib.hid (witL_stop 1 100 [c.M, c.G, c.F] j hltj)
                              obtain ⟨y, hy⟩ : ∃ y, y = [c.M, c.G, c.F].getD j 0 := ⟨_, rfl⟩
                              rw [← hy] at hcell HS HO
                              obtain ⟨v, hv⟩ : ∃ v, v = wit 1 100 y := ⟨_, rfl⟩
                              rw [← hv] at HS HO
                              have HV := Lib.hid hv.symm
                              clear hy hcc hv hl3
                              by_cases hv0 : v = 0
                              · subst hv0
                                have HN := Lib.hid (ht.out.trans (HS.out rfl))
                                clear HS HO
                                go_wp2_with (go_at_call 35; (with_reducible refine (refWithin_is _ _ _ 0 HV.out _).mono ?_); rintro e w' ⟨rfl, rfl⟩)
                                go_round
                                case rel => exact ⟨j + 1, by omega, by go_num, HN⟩
                                case measure => simp [intOf]; omega
                              · have HX := Lib.hid (errs_stop HE9.out (by decide) (ht.out.trans (HO.out hv0)) hv0)
                                have hvb := beq_eq_false_iff_ne.2 hv0
                                clear hv0 HS HO
                                go_wp2_with (go_at_call 35; (with_reducible refine (refWithin_is _ _ _ v HV.out _).mono ?_); rintro e w' ⟨rfl, rfl⟩)
                                go_ret
                                exact ⟨ret_int HX.out.symm, below_al hb9 _⟩
                            · have HX := Lib.hid (errs_drop HE9.out (by decide) (ht.out.trans (by rw [List.drop_of_length_le (show [c.M, c.G, c.F].length ≤ j by simp only [List.length_cons, List.length_nil]; omega)]; rfl)) rfl)
                              clear hl3
                              go_wp2_with fail
                              go_ret
                              exact ⟨ret_int HX.out.symm, below_al hb9 _⟩
                    · have HX := Lib.hid (errs_stop HE7.out (by decide) HG.out hv0)
                      have hvb := beq_eq_false_iff_ne.2 hv0
                      clear hv0 HG
                      go_wp2_with (go_at_call 35; (with_reducible refine (refWithin_is _ _ _ v HV.out _).mono ?_); rintro e w' ⟨rfl, rfl⟩)
                      go_ret
                      exact ⟨ret_int HX.out.symm, hb4⟩
              · have HX := Lib.hid (errs_stop (x := 1) HE6.out (by decide) (show bootsE c.N c.bn c.B = 1 by rw [bootsE, if_neg hbn]) (by decide))
                have hbb := beq_eq_false_iff_ne.2 hbn
                clear hbn
                go_wp2_with (go_at_call 35; (with_reducible refine (refWithin_is _ _ _ 0 HV.out _).mono ?_); rintro e w' ⟨rfl, rfl⟩)
                go_ret
                exact ⟨ret_int HX.out.symm, hb4⟩
            · have HX := Lib.hid (errs_stop HE5.out (by decide) HG.out hv0)
              have hvb := beq_eq_false_iff_ne.2 hv0
              clear hv0 HG
              go_wp2_with (go_at_call 35; (with_reducible refine (refWithin_is _ _ _ v HV.out _).mono ?_); rintro e w' ⟨rfl, rfl⟩)
              go_ret
              exact ⟨ret_int HX.out.symm, hb4⟩
          · have HX := Lib.hid (errs_stop (x := 1) HE4.out (by decide) (show slotsE c.pn c.S = 1 by unfold slotsE; rw [if_neg hq]) (by decide))
            have HQ := Lib.hid (decide_eq_false hq)
            clear hq
            go_wp2_with (go_at_call 37; (with_reducible refine (refSlots_is c false HQ.out w2 (HC.out.on hb2)).mono ?_); rintro e w4 ⟨rfl, a4⟩)
            go_ret
            exact ⟨ret_int HX.out.symm, below_then hb2 a4⟩
        · have HX := Lib.hid (errs_stop HE3.out (by decide) HG.out hv0)
          have hvb := beq_eq_false_iff_ne.2 hv0
          clear hv0 HG
          go_wp2_with (go_at_call 35; (with_reducible refine (refWithin_is _ _ _ v HV.out _).mono ?_); rintro e w' ⟨rfl, rfl⟩)
          go_ret
          exact ⟨ret_int HX.out.symm, hb2⟩
      · have HX := Lib.hid (errs_stop (x := 1) HE2.out (by decide) (show pairsE c.N c.P = 1 by unfold pairsE; rw [if_neg hq]) (by decide))
        have HQ := Lib.hid (decide_eq_false hq)
        clear hq
        go_wp2_with (go_at_call 36; (with_reducible refine (refPairs_is c false HQ.out w0 (HC.out.on hb0) hn1 hn2).mono ?_); rintro e w2 ⟨rfl, a2⟩)
        go_ret
        exact ⟨ret_int HX.out.symm, below_then hb0 a2⟩
    · have HX := Lib.hid (errs_stop HE1.out (by decide) HG.out hv0)
      have hvb := beq_eq_false_iff_ne.2 hv0
      clear hv0 HG
      go_wp2_with (go_at_call 35; (with_reducible refine (refWithin_is _ _ _ v HV.out _).mono ?_); rintro e w' ⟨rfl, rfl⟩)
      go_ret
      exact ⟨ret_int HX.out.symm, hb0⟩
  · have HX := Lib.hid (errs_stop HE0.out (by decide) HG.out hv0)
    have hvb := beq_eq_false_iff_ne.2 hv0
    clear hv0 HG
    go_wp2_with (go_at_call 35; (with_reducible refine (refWithin_is _ _ _ v HV.out _).mono ?_); rintro e w' ⟨rfl, rfl⟩)
    go_ret
    exact ⟨ret_int HX.out.symm, hb0⟩
end Go.Proofs.YtajkpbmjgncbbaaDoor

