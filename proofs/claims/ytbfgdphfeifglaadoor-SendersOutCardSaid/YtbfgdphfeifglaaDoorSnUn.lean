/-
  The law SendersUnlike, walked: a half whose partner's offer is another one, or none, or that has none, sends nothing; nobody but a half of a pair is its sender: true; nothing that was there has turned. Conditions: the config's reading; both tables are as the program's text lays them.
-/
import Derived.Test.YtbfgdphfeifglaaDoorSnVd
import Derived.Test.YtbfgdphfeifglaaDoorWnP
namespace Go.Proofs.YtbfgdphfeifglaaDoor
open Go.RowKit Rg
set_option linter.unusedVariables false

/-- A node may send for a pair just if it is a half of it. -/
theorem half_pair {c : Cf} (h0 : newE c = 0) (hl : c.P.length = c.pn) {q : Nat} (hq : q < c.pn) {x : Int} (hx : 0 ≤ x ∧ x < c.N) : (pairM c.N c.P x = q → halfE c.N c.P q x = 0) ∧ (pairM c.N c.P x ≠ q → halfE c.N c.P q x = 1) := by
  have ok := newE_ok.1 h0
  have hN := ok.nodes
  have hf := okP_at ok.okP q (by omega)
  have hb : 4 ≤ c.N ∧ c.N ≤ 16 ∧ (0 : Int) ≤ 0 ∧ (0 : Int) < 2 ∧ 0 ≤ c.P.getD q 0 ∧ c.P.getD q 0 < c.N ∧ 0 ≤ x ∧ x < c.N := by omega
  have h1 := half_iff hb
  have h2 := place_in hb
  have h3 := pair_iff (y := x) hN ok.okP (show q < c.P.length by omega)
  have h4 : plM c.N c.P 0 q x = placeM c.N 0 (c.P.getD q 0) x := by rw [plM, atM_nat c.P q (by omega)]
  unfold halfE
  rw [h4]
  constructor
  · intro h
    have := h1.2 (h3.1 h)
    rw [if_neg (by omega), if_pos (by omega)]
  · intro h
    have : ¬ placeM c.N 0 (c.P.getD q 0) x ≤ 1 := fun h5 => h (h3.2 (h1.1 h5))
    rw [if_neg (by omega), if_neg (by omega)]
theorem tmod_of {x n : Int} (h0 : 0 ≤ x) (hn : 0 < n) : 0 ≤ x.tmod n ∧ x.tmod n < n := by
  rw [Int.tmod_eq_emod_of_nonneg h0]
  exact mod_bd x n hn
abbrev sd0 : Sd := ⟨false, 0, 0, 0, 0, 0⟩

theorem sendersUnlike_none (c : Cf) (x0 x1 : Int) (a b : Sd) (w : World) (hw : Laid2 w) (HN : ∀ u, Below w.heap.size w u → Calls Tryd.prog 7 #[.agg #[.int .i64 c.N, .slice c.pA c.pn c.pc, .slice c.sA c.sn c.sc, .int .i64 c.L, .slice c.bA c.bn c.bc, .slice c.tA c.tn c.tc, .int .i64 c.M, .int .i64 c.G, .int .i64 c.F]] u fun e w' => e = .returned (.pointer none) ∧ Below u.heap.size u w') :
    Calls Tryd.prog 6 #[.agg #[.int .i64 c.N, .slice c.pA c.pn c.pc, .slice c.sA c.sn c.sc, .int .i64 c.L, .slice c.bA c.bn c.bc, .slice c.tA c.tn c.tc, .int .i64 c.M, .int .i64 c.G, .int .i64 c.F], .agg #[.int .u8 x0, .int .u8 x1], .agg #[.bool a.i, .int .i64 a.a, .int .u8 a.k, .int .u8 a.s, .int .u32 a.q, .int .u32 a.v, .bool b.i, .int .i64 b.a, .int .u8 b.k, .int .u8 b.s, .int .u32 b.q, .int .u32 b.v]] w fun e w' => e = .returned (.bool true) ∧ Below w.heap.size w w' := by
  have hB0 : Below w.heap.size w (((w.alloc (.cells #[.int .i64 c.N, .slice c.pA c.pn c.pc, .slice c.sA c.sn c.sc, .int .i64 c.L, .slice c.bA c.bn c.bc, .slice c.tA c.tn c.tc, .int .i64 c.M, .int .i64 c.G, .int .i64 c.F] 25)).alloc (.cells #[.int .u8 x0, .int .u8 x1] 76)).alloc (.cells #[.bool a.i, .int .i64 a.a, .int .u8 a.k, .int .u8 a.s, .int .u32 a.q, .int .u32 a.v, .bool b.i, .int .i64 b.a, .int .u8 b.k, .int .u8 b.s, .int .u32 b.q, .int .u32 b.v] 33)) := below_al (below_al (below_al (Below.refl w.heap.size w) _) _) _
  have HM := Lib.hid HN
  clear HN
  go_enter Tryd.func6, Tryd.ntmps6
  go_wp2_with (first
    | (go_at_call 7; (with_reducible refine (HM.out _ hB0).mono ?_); rintro e w1 ⟨rfl, b1⟩; have hB1 := below_then hB0 b1)
    | (go_at_call 8; (with_reducible refine (lives_sn _ (hw.on hB1)).mono ?_); rintro e w9 ⟨rfl, b9⟩))
  go_ret
  exact ⟨rfl, below_then hB1 b9⟩
set_option maxRecDepth 100000 in
set_option maxHeartbeats 4000000 in
theorem sendersUnlike_yes (c : Cf) (x0 x1 : Int) (a b : Sd) (w : World) (hw : Laid2 w) (hc : CfIn w c) (hg : greatB c = false) (h0 : newE c = 0) (h00 : 0 ≤ x0) (h01 : x0 ≤ 255) (h10 : 0 ≤ x1) (h11 : x1 ≤ 255) :
    Calls Tryd.prog 6 #[.agg #[.int .i64 c.N, .slice c.pA c.pn c.pc, .slice c.sA c.sn c.sc, .int .i64 c.L, .slice c.bA c.bn c.bc, .slice c.tA c.tn c.tc, .int .i64 c.M, .int .i64 c.G, .int .i64 c.F], .agg #[.int .u8 x0, .int .u8 x1], .agg #[.bool a.i, .int .i64 a.a, .int .u8 a.k, .int .u8 a.s, .int .u32 a.q, .int .u32 a.v, .bool b.i, .int .i64 b.a, .int .u8 b.k, .int .u8 b.s, .int .u32 b.q, .int .u32 b.v]] w fun e w' => e = .returned (.bool true) ∧ Below w.heap.size w w' := by
  have hB0 : Below w.heap.size w (((w.alloc (.cells #[.int .i64 c.N, .slice c.pA c.pn c.pc, .slice c.sA c.sn c.sc, .int .i64 c.L, .slice c.bA c.bn c.bc, .slice c.tA c.tn c.tc, .int .i64 c.M, .int .i64 c.G, .int .i64 c.F] 25)).alloc (.cells #[.int .u8 x0, .int .u8 x1] 76)).alloc (.cells #[.bool a.i, .int .i64 a.a, .int .u8 a.k, .int .u8 a.s, .int .u32 a.q, .int .u32 a.v, .bool b.i, .int .i64 b.a, .int .u8 b.k, .int .u8 b.s, .int .u32 b.q, .int .u32 b.v] 33)) := below_al (below_al (below_al (Below.refl w.heap.size w) _) _) _
  have HC0 : Hid (Blk (((w.alloc (.cells #[.int .i64 c.N, .slice c.pA c.pn c.pc, .slice c.sA c.sn c.sc, .int .i64 c.L, .slice c.bA c.bn c.bc, .slice c.tA c.tn c.tc, .int .i64 c.M, .int .i64 c.G, .int .i64 c.F] 25)).alloc (.cells #[.int .u8 x0, .int .u8 x1] 76)).alloc (.cells #[.bool a.i, .int .i64 a.a, .int .u8 a.k, .int .u8 a.s, .int .u32 a.q, .int .u32 a.v, .bool b.i, .int .i64 b.a, .int .u8 b.k, .int .u8 b.s, .int .u32 b.q, .int .u32 b.v] 33)) w.heap.size 25 #[.int .i64 c.N, .slice c.pA c.pn c.pc, .slice c.sA c.sn c.sc, .int .i64 c.L, .slice c.bA c.bn c.bc, .slice c.tA c.tn c.tc, .int .i64 c.M, .int .i64 c.G, .int .i64 c.F]) := Lib.hid (((Blk.new w _ _).alloc _).alloc _)
  have HX0 : Hid (Blk (((w.alloc (.cells #[.int .i64 c.N, .slice c.pA c.pn c.pc, .slice c.sA c.sn c.sc, .int .i64 c.L, .slice c.bA c.bn c.bc, .slice c.tA c.tn c.tc, .int .i64 c.M, .int .i64 c.G, .int .i64 c.F] 25)).alloc (.cells #[.int .u8 x0, .int .u8 x1] 76)).alloc (.cells #[.bool a.i, .int .i64 a.a, .int .u8 a.k, .int .u8 a.s, .int .u32 a.q, .int .u32 a.v, .bool b.i, .int .i64 b.a, .int .u8 b.k, .int .u8 b.s, .int .u32 b.q, .int .u32 b.v] 33)) (w.heap.size + 1) 76 #[.int .u8 x0, .int .u8 x1]) := Lib.hid ((Blk.newAt (by simp)).alloc _)
  have HO0 : Hid (Blk (((w.alloc (.cells #[.int .i64 c.N, .slice c.pA c.pn c.pc, .slice c.sA c.sn c.sc, .int .i64 c.L, .slice c.bA c.bn c.bc, .slice c.tA c.tn c.tc, .int .i64 c.M, .int .i64 c.G, .int .i64 c.F] 25)).alloc (.cells #[.int .u8 x0, .int .u8 x1] 76)).alloc (.cells #[.bool a.i, .int .i64 a.a, .int .u8 a.k, .int .u8 a.s, .int .u32 a.q, .int .u32 a.v, .bool b.i, .int .i64 b.a, .int .u8 b.k, .int .u8 b.s, .int .u32 b.q, .int .u32 b.v] 33)) (w.heap.size + 2) 33 #[.bool a.i, .int .i64 a.a, .int .u8 a.k, .int .u8 a.s, .int .u32 a.q, .int .u32 a.v, .bool b.i, .int .i64 b.a, .int .u8 b.k, .int .u8 b.s, .int .u32 b.q, .int .u32 b.v]) := Lib.hid (Blk.newAt (by simp))
  have HW0 := Lib.hid (hw.on hB0)
  have HIN0 := Lib.hid (hc.on hB0)
  have HB0 := Lib.hid hB0
  have HG := Lib.hid hg
  have H0 := Lib.hid h0
  have ok := newE_ok.1 h0
  have hp2 := ok.pairs.1
  have hp8 := ok.pairs.2
  have hN4 := ok.nodes.1
  have hN16 := ok.nodes.2
  have hpl := hc.p.len
  have hy := tmod_of (n := c.N) h00 (by omega)
  obtain ⟨y, ey⟩ : ∃ y, y = x0.tmod c.N := ⟨_, rfl⟩
  rw [← ey] at hy
  have m1 : x0.tmod c.N = y := ey.symm
  have u1 : IntKind.i64.wrap y = y := IntWalk.i64_in _ (by omega)
  have u2 : IntKind.i64.wrap x1 = x1 := IntWalk.i64_in _ (by omega)
  have u3 : IntKind.i64.wrap x0 = x0 := IntWalk.i64_in _ (by omega)
  have n1 : c.N ≠ 0 := by omega
  have n2 : (c.N == 0) = false := beq_eq_false_iff_ne.2 n1
  obtain ⟨q, hq⟩ : ∃ q, pairM c.N c.P y = q := ⟨_, rfl⟩
  have HQ := Lib.hid hq
  have HQC := Lib.hid (show q = -1 ∨ ∃ n : Nat, n < c.pn ∧ q = n from by
    rcases pair_cases c.N c.P y with ⟨e1, _⟩ | ⟨n, e1, e2, _⟩
    · left; omega
    · right; exact ⟨n, by omega, by omega⟩)
  have HHP := Lib.hid (fun (n : Nat) (hn : n < c.pn) => half_pair h0 hpl hn hy)
  rw [hq] at HHP
  clear hB0 hw hc hg h0 ok hpl ey hq hy
  go_enter Tryd.func6, Tryd.ntmps6
  go_wp2_with (first
    | (go_at_call 7; (with_reducible refine (netWn c _ HW0.out HIN0.out HG.out H0.out).mono ?_); rintro e w1 ⟨gN, rfl, hN1, b1⟩; have hX1 := HX0.out.on b1; have t0 := (hX1.cell 0).trans rfl; have tl := hX1.lt; obtain ⟨k0, k1, k2, k3, k4, k5, k6, k7, k8⟩ := (HC0.out.on b1).cf; have kl := (HC0.out.on b1).lt)
    | (go_at_call 20; (with_reducible refine (netPair_is _ c.N c.P y q HQ.out _ hN1 (HW0.out.on b1).ways).mono ?_); rintro e w2 ⟨rfl, b2⟩; clear t0 tl; clear k0 k1 k2 k3 k4 k5 k6 k7 k8 kl))
  have b12 := below_then b1 b2
  have hC := HC0.out.on b12
  have hX := HX0.out.on b12
  have hO := HO0.out.on b12
  have hN := hN1.on b2
  have hW := HW0.out.on b12
  have hB := below_then HB0.out b12
  obtain ⟨gC, hgC⟩ : ∃ g, g = w.heap.size := ⟨_, rfl⟩
  obtain ⟨gX, hgX⟩ : ∃ g, g = w.heap.size + 1 := ⟨_, rfl⟩
  obtain ⟨gO, hgO⟩ : ∃ g, g = w.heap.size + 2 := ⟨_, rfl⟩
  have HGC := Lib.hid hgC
  rw [← hgO] at hO ⊢
  rw [← hgX] at hX ⊢
  rw [← hgC] at hC ⊢
  clear hgC hgX hgO b1 b2 b12 hN1 hX1 HC0 HX0 HO0 HIN0 HG
  go_loopw [10] (fun i wr => ∃ k : Nat, k ≤ c.pn ∧ i = .int .i64 k ∧ Blk wr gC 25 #[.int .i64 c.N, .slice c.pA c.pn c.pc, .slice c.sA c.sn c.sc, .int .i64 c.L, .slice c.bA c.bn c.bc, .slice c.tA c.tn c.tc, .int .i64 c.M, .int .i64 c.G, .int .i64 c.F] ∧ Blk wr gX 76 #[.int .u8 x0, .int .u8 x1] ∧ Blk wr gO 33 #[.bool a.i, .int .i64 a.a, .int .u8 a.k, .int .u8 a.s, .int .u32 a.q, .int .u32 a.v, .bool b.i, .int .i64 b.a, .int .u8 b.k, .int .u8 b.s, .int .u32 b.q, .int .u32 b.v] ∧ NetP wr (.pointer (some ⟨gN, 0, none⟩)) c.N c.P ∧ Laid2 wr ∧ Below w.heap.size w wr) (fun i _ => c.pn - (intOf i).toNat)
  case atStart => exact ⟨0, by omega, rfl, hC, hX, hO, hN, hW, hB⟩
  case round =>
    clear hC hX hO hN hW hB
    obtain ⟨k, hk, rfl, hC, hX, hO, hN, hW, hB⟩ := hrel
    obtain ⟨k0, k1, k2, k3, k4, k5, k6, k7, k8⟩ := hC.cf; have kl := hC.lt
    by_cases hlt : k < c.pn
    · have hkd : decide ((k : Int) < (c.pn : Int)) = true := decide_eq_true (by omega)
      obtain ⟨o0, o1, o2, o3, o4, o5, o6, o7, o8, o9, oa, ob, ol⟩ := hO.sd2
      by_cases hqk : q = k
      · have HE := Lib.hid ((HHP.out k hlt).1 hqk)
        have c1 : ((k : Int) == q) = true := by simpa using hqk.symm
        have HQK := Lib.hid hqk
        clear hqk
        go_wp2_with (go_at_call 9; (with_reducible refine (new_mute _ c.N c.P y k sd0 b HE.out rfl _ hN hW).mono ?_); rintro e w3 ⟨g3, rfl, -, b3⟩; clear o0 o1 o2 o3 o4 o5 o6 o7 o8 o9 oa ob ol; clear k0 k1 k2 k3 k4 k5 k6 k7 k8 kl)
        go_roundw
        case rel => exact ⟨k + 1, by omega, by go_num, hC.on b3, hX.on b3, hO.on b3, hN.on b3, hW.on b3, below_then hB b3⟩
        case measure => simp [intOf]; omega
      · have HE := Lib.hid ((HHP.out k hlt).2 hqk)
        have c1 : ((k : Int) == q) = false := beq_eq_false_iff_ne.2 fun h => hqk h.symm
        clear hqk
        go_wp2_with (go_at_call 9; (with_reducible refine (new_bad _ c.N c.P y k sd0 b 1 HE.out (by decide) _ hN hW).mono ?_); rintro e w3 ⟨rfl, b3⟩; clear o0 o1 o2 o3 o4 o5 o6 o7 o8 o9 oa ob ol; clear k0 k1 k2 k3 k4 k5 k6 k7 k8 kl)
        go_roundw
        case rel => exact ⟨k + 1, by omega, by go_num, hC.on b3, hX.on b3, hO.on b3, hN.on b3, hW.on b3, below_then hB b3⟩
        case measure => simp [intOf]; omega
    · have hkd : decide ((k : Int) < (c.pn : Int)) = false := decide_eq_false (by omega)
      have HN := Lib.hid hN
      have HW := Lib.hid hW
      have HB := Lib.hid hB
      have HX := Lib.hid hX
      obtain ⟨o0, o1, o2, o3, o4, o5, o6, o7, o8, o9, oa, ob, ol⟩ := hO.sd2
      have he := fun W => pay_eql a.k a.s a.q a.v b.k b.s b.q b.v W
      obtain ⟨t, ht⟩ : ∃ t, t = (a.k == b.k && a.s == b.s && a.q == b.q && a.v == b.v) := ⟨_, rfl⟩
      simp only [← ht] at he
      have HT := Lib.hid ht
      clear hC hX hO hN hW hB ht
      rcases HQC.out with rfl | ⟨n, hn, rfl⟩
      · clear he
        go_wp2_with (go_at_call 8; (with_reducible refine (lives_sn _ HW.out).mono ?_); rintro e w9 ⟨rfl, b9⟩)
        go_ret
        exact ⟨rfl, below_then HB.out b9⟩
      · have HHE := Lib.hid ((HHP.out n hn).1 rfl)
        obtain ⟨q, hqn⟩ : ∃ q : Int, q = n := ⟨_, rfl⟩
        have hq0 : decide (q < 0) = false := decide_eq_false (by omega)
        rw [← hqn] at HHE ⊢
        clear hqn HHP HQ HQC
        obtain ⟨ai, aa, ak, as', aq, av⟩ := a
        obtain ⟨bi, ba, bk, bs, bq, bv⟩ := b
        simp only at o0 o1 o2 o3 o4 o5 o6 o7 o8 o9 oa ob he ⊢
        cases ai with
        | false =>
          have HS := Lib.hid (show sameB ⟨false, aa, ak, as', aq, av⟩ ⟨bi, ba, bk, bs, bq, bv⟩ = false from rfl)
          go_wp2_with (first
            | (go_at_call 9; (with_reducible refine (new_mute _ c.N c.P y q _ _ HHE.out HS.out _ HN.out HW.out).mono ?_); rintro e w3 ⟨g3, rfl, hM3, b3⟩; clear o0 o1 o2 o3 o4 o5 o6 o7 o8 o9 oa ob ol; have HM3 := Lib.hid (show Mute w3 (.pointer (some ⟨g3, 0, none⟩)) from .inr ⟨_, rfl, hM3⟩); have hX3 := HX.out.on b3; have t1 := (hX3.cell 1).trans rfl; have tl := hX3.lt; have hb3 := below_then HB.out b3; clear hM3)
            | (go_at_call 12; (with_reducible refine (out_mute _ x1 _ HM3.out).mono ?_); rintro e w4 ⟨rfl, b4⟩; have hb4 := below_then hb3 b4)
            | (go_at_call 11; (with_reducible refine (sends_mute _ _ (HM3.out.on b4)).mono ?_); rintro e w5 ⟨rfl, b5⟩; have b5' := below_al b5 (.cells #[.int .u8 0, .int .u8 0, .int .u32 0, .int .u32 0] 30); have HW5 := Lib.hid (((HW.out.on b3).on b4).on b5'); have HB5 := Lib.hid (below_then hb4 b5'))
            | (go_at_call 8; (with_reducible refine (lives_sn _ HW5.out).mono ?_); rintro e w9 ⟨rfl, b9⟩))
          go_ret
          exact ⟨rfl, below_then HB5.out b9⟩
        | true =>
          cases bi with
          | false =>
            have HS := Lib.hid (show sameB ⟨true, aa, ak, as', aq, av⟩ ⟨false, ba, bk, bs, bq, bv⟩ = false from rfl)
            go_wp2_with (first
              | (go_at_call 9; (with_reducible refine (new_mute _ c.N c.P y q _ _ HHE.out HS.out _ HN.out HW.out).mono ?_); rintro e w3 ⟨g3, rfl, hM3, b3⟩; clear o0 o1 o2 o3 o4 o5 o6 o7 o8 o9 oa ob ol; have HM3 := Lib.hid (show Mute w3 (.pointer (some ⟨g3, 0, none⟩)) from .inr ⟨_, rfl, hM3⟩); have hX3 := HX.out.on b3; have t1 := (hX3.cell 1).trans rfl; have tl := hX3.lt; have hb3 := below_then HB.out b3; clear hM3)
              | (go_at_call 12; (with_reducible refine (out_mute _ x1 _ HM3.out).mono ?_); rintro e w4 ⟨rfl, b4⟩; have hb4 := below_then hb3 b4)
              | (go_at_call 11; (with_reducible refine (sends_mute _ _ (HM3.out.on b4)).mono ?_); rintro e w5 ⟨rfl, b5⟩; have b5' := below_al b5 (.cells #[.int .u8 0, .int .u8 0, .int .u32 0, .int .u32 0] 30); have HW5 := Lib.hid (((HW.out.on b3).on b4).on b5'); have HB5 := Lib.hid (below_then hb4 b5'))
              | (go_at_call 8; (with_reducible refine (lives_sn _ HW5.out).mono ?_); rintro e w9 ⟨rfl, b9⟩))
            go_ret
            exact ⟨rfl, below_then HB5.out b9⟩
          | true =>
            cases t with
            | false =>
              have HS := Lib.hid (show sameB ⟨true, aa, ak, as', aq, av⟩ ⟨true, ba, bk, bs, bq, bv⟩ = false from HT.out.symm)
              go_wp2_with (first
                | (go_at_call 9; (with_reducible refine (new_mute _ c.N c.P y q _ _ HHE.out HS.out _ HN.out HW.out).mono ?_); rintro e w3 ⟨g3, rfl, hM3, b3⟩; clear o0 o1 o2 o3 o4 o5 o6 o7 o8 o9 oa ob ol; have HM3 := Lib.hid (show Mute w3 (.pointer (some ⟨g3, 0, none⟩)) from .inr ⟨_, rfl, hM3⟩); have hX3 := HX.out.on b3; have t1 := (hX3.cell 1).trans rfl; have tl := hX3.lt; have hb3 := below_then HB.out b3; clear hM3)
                | (go_at_call 12; (with_reducible refine (out_mute _ x1 _ HM3.out).mono ?_); rintro e w4 ⟨rfl, b4⟩; have hb4 := below_then hb3 b4)
                | (go_at_call 11; (with_reducible refine (sends_mute _ _ (HM3.out.on b4)).mono ?_); rintro e w5 ⟨rfl, b5⟩; have b5' := below_al b5 (.cells #[.int .u8 0, .int .u8 0, .int .u32 0, .int .u32 0] 30); have HW5 := Lib.hid (((HW.out.on b3).on b4).on b5'); have HB5 := Lib.hid (below_then hb4 b5'))
                | (go_at_call 8; (with_reducible refine (lives_sn _ HW5.out).mono ?_); rintro e w9 ⟨rfl, b9⟩))
              go_ret
              exact ⟨rfl, below_then HB5.out b9⟩
            | true =>
              go_wp2_with (go_at_call 8; (with_reducible refine (lives_sn _ HW.out).mono ?_); rintro e w9 ⟨rfl, b9⟩)
              go_ret
              exact ⟨rfl, below_then HB.out b9⟩
theorem sendersUnlike_walk (c : Cf) (x0 x1 : Int) (a b : Sd) (w : World) (hw : Laid2 w) (hr : CfRaw w c) (h0 : (Lit.int .u8 x0).wf = true) (h1 : (Lit.int .u8 x1).wf = true) :
    Calls Tryd.prog 6 #[.agg #[.int .i64 c.N, .slice c.pA c.pn c.pc, .slice c.sA c.sn c.sc, .int .i64 c.L, .slice c.bA c.bn c.bc, .slice c.tA c.tn c.tc, .int .i64 c.M, .int .i64 c.G, .int .i64 c.F], .agg #[.int .u8 x0, .int .u8 x1], .agg #[.bool a.i, .int .i64 a.a, .int .u8 a.k, .int .u8 a.s, .int .u32 a.q, .int .u32 a.v, .bool b.i, .int .i64 b.a, .int .u8 b.k, .int .u8 b.s, .int .u32 b.q, .int .u32 b.v]] w fun e w' => e = .returned (.bool true) ∧ Below w.heap.size w w' := by
  have q0 := bounds_u8 h0
  have q1 := bounds_u8 h1
  rcases raw_cases hr with hn | ⟨hc, hg, h0⟩
  · exact sendersUnlike_none c x0 x1 a b w hw hn
  · exact sendersUnlike_yes c x0 x1 a b w hw hc hg h0 q0.1 q0.2 q1.1 q1.2
end Go.Proofs.YtbfgdphfeifglaaDoor

